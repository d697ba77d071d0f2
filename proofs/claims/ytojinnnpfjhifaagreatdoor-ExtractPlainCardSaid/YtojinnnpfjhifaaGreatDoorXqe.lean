/-
  
  Marks, without a program: how a tag is read run by run (the code's way) and byte by byte (the document's way), and that both are one.
  Bytes as they lie in memory.
  Bytes and strings.
  Contracts: slices.IndexFunc over bytes, position.isDone, take, until, for each of the three functions that are asked.
  Contracts: position.isDone, position.take.
  Contracts: position.until, for each of the three functions that are asked.
  Contracts: oneOf, noneOf, what they make, and the value's own function; isLetter.
  Contracts: Go's own conversions of bytes.
-/
import Derived.WalkKit
import Derived.BigQuiet
import Derived.Deep.QuietTactic
import Derived.Outline
import Derived.Lib.Hide
import Derived.Below
import Derived.Shelf.SlicesE.Clone
import Derived.Laws.IdiomStrings
import Derived.Laws.OwnMore
import Derived.OwnWalk
import Derived.RangeFuncRecord
import Derived.RangeFuncBox
import Derived.Deep.AppendLies
import Derived.Test.YtojinnnpfjhifaaGreatDoorProg
import Derived.Lib.QuietBelow
import Derived.StillTailTactics
import Derived.Maps.OwnOps
import Derived.Maps.OwnSet
import Derived.Maps.Views
import Derived.BigRegion
import Derived.Deep.RegionLaw
import Derived.Laws.AppendOwnNone
import Derived.Deep.Slices
import Derived.Lib.UnsafeStr
import Derived.Test.YtojinnnpfjhifaaGreatDoorXqb
import Derived.Shelf.Bytes.SlSmallAll
namespace Go.Proofs.YtojinnnpfjhifaaGreatDoor.G
open Go.RowKit Go.Shelf Go.Lib Go.Maps
set_option maxHeartbeats 1000000 in
set_option maxRecDepth 100000 in
theorem below_drewN {B : Nat} {a w : World} (h : Below B a w) (n : Nat) : Below B a (w.drewN n) := ⟨h.os, h.tape, h.output, h.size, h.block⟩
theorem ret_bool {a b : Bool} (h : a = b) : Ending.returned (.bool a) = .returned (.bool b) := by rw [h]
theorem add0 (g j : Nat) : (Addr.mk g 0 none).add j = ⟨g, j, none⟩ := by
  unfold Addr.add
  by_cases h : j = 0 <;> simp [h]
/-- A block that is known whole. -/
def Cells (W : World) (g t : Nat) (cs : Array Value) : Prop := W.heap[g]? = some (.cells cs t (0, 0))
theorem Cells.lt {W : World} {g t : Nat} {cs : Array Value} (h : Cells W g t cs) : g < W.heap.size := (Array.getElem?_eq_some_iff.1 h).1
theorem Cells.cell {W : World} {g t : Nat} {cs : Array Value} (h : Cells W g t cs) (i : Nat) : W.cell? ⟨g, i, none⟩ = cs[i]? := by
  simp [World.cell?, show W.heap[g]? = _ from h]
theorem own_block_lt {w : World} {base e size n : Nat} {v : Value} {xs : List Value} (h : w.ownsRow base e size v n xs) : ∀ k, v.ownBlock = some k → base ≤ k ∧ k < w.heap.size := by
  rcases h.2 with ⟨rfl, _⟩ | ⟨g, cap, cur, rfl, hb, hh, _⟩
  · intro k e; simp [Value.ownBlock] at e
  · intro k e
    obtain rfl : g = k := by simpa [Value.ownBlock] using e
    exact ⟨hb, (Array.getElem?_eq_some_iff.1 hh).1⟩

theorem grown_of_below {A B : World} (h : Below A.heap.size A B) : A.grownBy B none := ⟨h.os, h.tape, h.output, h.size, fun k hk _ => h.block k hk⟩
theorem ownsRow_below {w w' : World} {base e size n : Nat} {v : Value} {xs : List Value} (h : w.ownsRow base e size v n xs) (hb : Below w.heap.size w w') : w'.ownsRow base e size v n xs :=
  h.kept (grown_of_below hb) (by cases v.ownBlock <;> simp)

def i64 (n : Int) : Prop := -9223372036854775808 ≤ n ∧ n ≤ 9223372036854775807

theorem below_new (w : World) (o : Obj) : Below w.heap.size w (w.alloc o) := (Below.refl _ _).alloc (Nat.le_refl _) o
theorem cells_new (w : World) (cs : Array Value) (t : Nat) : Cells (w.alloc (.cells cs t)) w.heap.size t cs := World.alloc_heap_new w _
theorem Cells.froz {W : World} {g t : Nat} {cs : Array Value} (h : Cells W g t cs) (i : Nat) : W.frozen? ⟨g, i, none⟩ = false := by
  simp [World.frozen?, show W.heap[g]? = _ from h]
theorem Cells.set {W : World} {g t : Nat} {cs : Array Value} (h : Cells W g t cs) (i : Nat) (v : Value) : Cells (W.setCell ⟨g, i, none⟩ v) g t (cs.setIfInBounds i v) := by
  unfold Cells World.setCell
  simp only [Array.getElem?_modify, if_true]
  rw [show W.heap[g]? = _ from h]
  rfl
theorem grown_setc (w : World) (b j : Nat) (v : Value) : w.grownBy (w.setCell ⟨b, j, none⟩ v) (some b) := ⟨rfl, rfl, rfl, by simp [World.setCell], fun k _ hk => Below.heap_setCell _ _ _ _ (fun e => hk (by rw [e]))⟩
theorem nat64 {p : Nat} (h : p < 9223372036854775808) : i64 (p : Int) := by unfold i64; omega
theorem cell_lt {w : World} {a : Addr} {v : Value} (h : w.cell? a = some v) : a.block < w.heap.size := by
  unfold World.cell? at h
  cases hb : w.heap[a.block]? with
  | none => simp [hb] at h
  | some x => exact (Array.getElem?_eq_some_iff.1 hb).1
/-- A slice of numbers. -/
structure IS (w : World) (B : Nat) (xs : List Int) (A : Option Addr) (cap : Nat) : Prop where
  l : xs.length ≤ cap
  m : cap ≤ maxLen
  i : ∀ x ∈ xs, i64 x
  r : xs ≠ [] → ∃ b o, A = some ⟨b, o, none⟩ ∧ b < B ∧ ∀ i x, xs[i]? = some x → w.cell? ⟨b, o + i, none⟩ = some (.int .i64 x)
theorem IS.below {w w' : World} {B : Nat} {xs : List Int} {A : Option Addr} {cap : Nat} (h : IS w B xs A cap) (hb : Below B w w') : IS w' B xs A cap :=
  ⟨h.l, h.m, h.i, fun hne => by
    obtain ⟨b, o, rfl, hl, hr⟩ := h.r hne
    exact ⟨b, o, rfl, hl, fun i x hx => (hb.cell (p := ⟨b, _, none⟩) hl).trans (hr i x hx)⟩⟩
theorem IS.mono {w : World} {B B' : Nat} {xs : List Int} {A : Option Addr} {cap : Nat} (h : IS w B xs A cap) (hB : B ≤ B') : IS w B' xs A cap :=
  ⟨h.l, h.m, h.i, fun hne => by
    obtain ⟨b, o, rfl, hl, hr⟩ := h.r hne
    exact ⟨b, o, rfl, by omega, hr⟩⟩
theorem IS.on {w w' : World} {xs : List Int} {A : Option Addr} {cap : Nat} (h : IS w w.heap.size xs A cap) (hb : Below w.heap.size w w') : IS w' w'.heap.size xs A cap := (h.below hb).mono hb.size
theorem info3 : (Tryz.prog.info? 3).map (fun i => (i.zero, i.size, i.bytes)) = some (some (.int .i64 0), 1, 8) := by kernel_rfl
def intsC (l : List Int) : List Value := l.map fun x => Value.int .i64 x
theorem intsC_len (l : List Int) : (intsC l).length = l.length := by simp [intsC]
theorem intsC_append (l m : List Int) : intsC (l ++ m) = intsC l ++ intsC m := by simp [intsC]
def OwnI (w : World) (base : Nat) (l : List Int) (v : Value) : Prop := w.ownsRow base 3 1 v l.length (intsC l)
theorem wpList_wanted {P : Program} {ops : Array Oper} {rest : List Oper} {o : Oper} {a : Act} {w : World} {Q : Exit → Act → World → Prop} (hw : Region.wanted o (yielded ops a.tmps) = true)
    (h : ∀ K : Act → World → Prop, (∀ a w, wpList P ops Q rest a w → K a w) → o.wp P a w K Q) : wpList P ops Q (o :: rest) a w :=
  wpList_step fun K hK => by rw [if_pos hw]; exact h K hK
theorem OwnI.is {w : World} {base : Nat} {l : List Int} {v : Value} (h : OwnI w base l v) (hl : ∀ x ∈ l, i64 x) : ∃ A cap, v = .slice A l.length cap ∧ IS w w.heap.size l A cap ∧ (A = none → cap = 0) := by
  rcases h.2 with ⟨h1, h2⟩ | ⟨g, cap, cur, h1, h2, h3, h4, h5, h6, h7⟩
  · have hn : l = [] := List.eq_nil_of_length_eq_zero h2
    subst hn
    exact ⟨none, 0, by rw [h1]; rfl, ⟨Nat.le_refl _, by unfold maxLen; omega, (fun x hx => absurd hx (by simp)), (fun hn => absurd rfl hn)⟩, fun _ => rfl⟩
  · refine ⟨_, cap, h1, ⟨h4, h5, hl, fun _ => ⟨g, 0, rfl, (Array.getElem?_eq_some_iff.1 h3).1, fun i x hx => ?_⟩⟩, fun e => by cases e⟩
    have hc := World.ownsRow.cells h (g := g) (by rw [h1]; rfl) i (.int .i64 x) (by simp [intsC, hx])
    rw [add0] at hc
    rw [Nat.zero_add]; exact hc
/-- A slice literal is the call's own. -/
theorem ownI_lit (w : World) (l : List Int) (hl : l.length ≤ 100) : OwnI (w.alloc (.cells (intsC l).toArray 3)) w.heap.size l (.slice (some ⟨w.heap.size, 0, none⟩) l.length l.length) :=
  ⟨by simp [intsC_len], .inr ⟨w.heap.size, l.length, (intsC l).toArray, rfl, Nat.le_refl _, heap_alloc_new w _, Nat.le_refl _, by unfold maxLen; omega, by simp [intsC_len], by simp [List.take_of_length_le, intsC_len]⟩⟩
theorem OwnI.below {w w' : World} {base : Nat} {l : List Int} {v : Value} (h : OwnI w base l v) (hb : Below w.heap.size w w') : OwnI w' base l v := ownsRow_below h hb
/-- Of what was there only some blocks may have turned. -/
structure Fz (X : Nat → Prop) (w w' : World) : Prop where
  os : w'.os = w.os
  tape : w'.tape = w.tape
  output : w'.output = w.output
  size : w.heap.size ≤ w'.heap.size
  block : ∀ k, k < w.heap.size → ¬ X k → w'.heap[k]? = w.heap[k]?
theorem Fz.refl (X : Nat → Prop) (w : World) : Fz X w w := ⟨rfl, rfl, rfl, Nat.le_refl _, fun _ _ _ => rfl⟩
theorem Fz.trans {X : Nat → Prop} {a b c : World} (h : Fz X a b) (k : Fz X b c) : Fz X a c :=
  ⟨k.os.trans h.os, k.tape.trans h.tape, k.output.trans h.output, Nat.le_trans h.size k.size, fun i hi hn => (k.block i (Nat.lt_of_lt_of_le hi h.size) hn).trans (h.block i hi hn)⟩
theorem Fz.of_below {X : Nat → Prop} {a b : World} (h : Below a.heap.size a b) : Fz X a b := ⟨h.os, h.tape, h.output, h.size, fun k hk _ => h.block k hk⟩
theorem Fz.of_grown {X : Nat → Prop} {a b : World} {o : Option Nat} (h : a.grownBy b o) (hx : ∀ k, o = some k → X k) : Fz X a b :=
  ⟨h.os, h.tape, h.output, h.size, fun k hk hn => h.block k hk (fun e => hn (hx k e.symm))⟩
theorem Fz.mono {X Y : Nat → Prop} {a b : World} (h : Fz X a b) (hxy : ∀ k, X k → Y k) : Fz Y a b := ⟨h.os, h.tape, h.output, h.size, fun k hk hn => h.block k hk (fun hx => hn (hxy k hx))⟩
theorem Fz.below {X : Nat → Prop} {a b : World} {B : Nat} (h : Fz X a b) (hB : B ≤ a.heap.size) (hX : ∀ k, k < B → ¬ X k) : Below B a b := ⟨h.os, h.tape, h.output, h.size, fun k hk => h.block k (by omega) (hX k hk)⟩
theorem Fz.set {X : Nat → Prop} (w : World) (b i : Nat) (v : Value) (hb : X b) : Fz X w (w.setCell ⟨b, i, none⟩ v) :=
  ⟨rfl, rfl, rfl, by simp, fun k _ hn => by
    have : b ≠ k := fun e => hn (e ▸ hb)
    simp [World.setCell, Array.getElem?_modify, this]⟩

theorem add_none (ad : Addr) : ad.add 0 = ad := by
  unfold Addr.add
  simp
/-- One cell more at a row of the call's own. -/
theorem wpList_append_one {ops : Array Oper} {rest : List Oper} {o : Oper} {a : Act} {w : World} {Q : Exit → Act → World → Prop} (hgd : o.guard = none) (s x : Operand) (t : TypeId)
    (ho : o.op = .call { callee := .builtin .append, args := #[s, x], argTypes := #[t, t] }) (base : Nat) (e : TypeId) (i : TypeInfo) (z : Value) (bytes : Nat) (ht : Tryz.prog.underlying t = some (.slice e)) (hi : Tryz.prog.info? e = some i)
    (hz : i.zero = some z) (hsize : i.size = 1) (hby : i.bytes = bytes) (hb24 : bytes ≤ 24) (hzs : z.cells.size = 1) (v : Value) (n : Nat) (xs : List Value) (hs : a.eval s = v) (hown : w.ownsRow base e 1 v n xs) (ad : Addr) (u : Value)
    (hx : a.eval x = .slice (some ad) 1 1) (hu : w.cell? ad = some u) (h1 : u.oneCell' = true) (h63 : n ≤ 1000000) (hbase : base ≤ w.heap.size) (H : Nat) (hH : w.heap.size = H)
    (h : ∀ g cap w', w'.ownsRow base e 1 (.slice (some ⟨g, 0, none⟩) (n + 1) cap) (n + 1) (xs ++ [u]) → w.grownBy w' v.ownBlock → (v.ownBlock = some g ∨ g = H) → g < w'.heap.size →
      wpList Tryz.prog ops Q rest (a.put o.dst (.slice (some ⟨g, 0, none⟩) (n + 1) cap)) w') : wpList Tryz.prog ops Q (o :: rest) a w := by
  refine wpList_append_lies _ hgd s x t ho base e i z 1 bytes ht hi hz hsize hby hzs (by decide) v n xs hs hown ad 1 1 [u] hx rfl (fun j q hj => ?_) (fun q hq => by simp at hq; subst hq; exact h1) (by decide) (by unfold maxLen; omega) ?_ hbase H hH h
  · cases j with
    | zero => simp at hj; subst hj; rw [add_none ad]; exact hu
    | succ j => simp at hj
  · have : (n + 1) * bytes ≤ (n + 1) * 24 := Nat.mul_le_mul_left _ hb24
    omega
theorem below_grown' {w w' : World} {B e n : Nat} {v : Value} {xs : List Value} (hg : w.grownBy w' v.ownBlock) (ho : w.ownsRow B e 1 v n xs) (hB : B ≤ w.heap.size) : Below B w w' :=
  ⟨hg.os, hg.tape, hg.output, hg.size, fun k hk => hg.block k (by omega) (fun h => by have := (own_block_lt ho k h.symm).1; omega)⟩
/-- A slice of rows. -/
structure RsAt (w : World) (B : Nat) (R : List (List Int)) (A : Option Addr) (cap : Nat) : Prop where
  l : R.length ≤ cap
  m : cap ≤ maxLen
  z : A = none → cap = 0
  r : R ≠ [] → ∃ b o, A = some ⟨b, o, none⟩ ∧ b < B ∧ ∀ (i : Nat) (r : List Int), R[i]? = some r → ∃ A' c', w.cell? ⟨b, o + i, none⟩ = some (.slice A' r.length c') ∧ IS w B r A' c' ∧ (A' = none → c' = 0)
theorem RsAt.below {w w' : World} {B : Nat} {R : List (List Int)} {A : Option Addr} {cap : Nat} (h : RsAt w B R A cap) (hb : Below B w w') : RsAt w' B R A cap :=
  ⟨h.l, h.m, h.z, fun hne => by
    obtain ⟨b, o, rfl, hl, hr⟩ := h.r hne
    exact ⟨b, o, rfl, hl, fun i r hx => by
      obtain ⟨A', c', h1, h2, h3⟩ := hr i r hx
      exact ⟨A', c', (hb.cell (p := ⟨b, _, none⟩) hl).trans h1, h2.below hb, h3⟩⟩⟩
theorem RsAt.mono {w : World} {B B' : Nat} {R : List (List Int)} {A : Option Addr} {cap : Nat} (h : RsAt w B R A cap) (hB : B ≤ B') : RsAt w B' R A cap :=
  ⟨h.l, h.m, h.z, fun hne => by
    obtain ⟨b, o, rfl, hl, hr⟩ := h.r hne
    exact ⟨b, o, rfl, by omega, fun i r hx => by
      obtain ⟨A', c', h1, h2, h3⟩ := hr i r hx
      exact ⟨A', c', h1, h2.mono hB, h3⟩⟩⟩
theorem RsAt.on {w w' : World} {R : List (List Int)} {A : Option Addr} {cap : Nat} (h : RsAt w w.heap.size R A cap) (hb : Below w.heap.size w w') : RsAt w' w'.heap.size R A cap := (h.below hb).mono hb.size
/-- A slice of what states tell. -/
structure UsAt (w : World) (B : Nat) (T : List Nat) (A : Option Addr) (cap : Nat) : Prop where
  l : T.length ≤ cap
  m : cap ≤ maxLen
  z : A = none → cap = 0
  i : ∀ x ∈ T, x < 18446744073709551616
  r : T ≠ [] → ∃ b o, A = some ⟨b, o, none⟩ ∧ b < B ∧ ∀ (i : Nat) (x : Nat), T[i]? = some x → w.cell? ⟨b, o + i, none⟩ = some (.int .u64 (x : Int))
theorem UsAt.below {w w' : World} {B : Nat} {T : List Nat} {A : Option Addr} {cap : Nat} (h : UsAt w B T A cap) (hb : Below B w w') : UsAt w' B T A cap :=
  ⟨h.l, h.m, h.z, h.i, fun hne => by
    obtain ⟨b, o, rfl, hl, hr⟩ := h.r hne
    exact ⟨b, o, rfl, hl, fun i x hx => (hb.cell (p := ⟨b, _, none⟩) hl).trans (hr i x hx)⟩⟩
theorem UsAt.mono {w : World} {B B' : Nat} {T : List Nat} {A : Option Addr} {cap : Nat} (h : UsAt w B T A cap) (hB : B ≤ B') : UsAt w B' T A cap :=
  ⟨h.l, h.m, h.z, h.i, fun hne => by
    obtain ⟨b, o, rfl, hl, hr⟩ := h.r hne
    exact ⟨b, o, rfl, by omega, hr⟩⟩
theorem UsAt.on {w w' : World} {T : List Nat} {A : Option Addr} {cap : Nat} (h : UsAt w w.heap.size T A cap) (hb : Below w.heap.size w w') : UsAt w' w'.heap.size T A cap := (h.below hb).mono hb.size
theorem any_take {xs : List Int} {k : Nat} {x : Int} (p : Int → Bool) (h : xs[k]? = some x) : (xs.take (k + 1)).any p = ((xs.take k).any p || p x) := by
  rw [List.take_add_one, h, Option.toList_some, List.any_append]
  simp
theorem any_hit {xs : List Int} {k : Nat} {x : Int} {p : Int → Bool} (h : xs[k]? = some x) (hp : p x = true) : xs.any p = true := List.any_eq_true.2 ⟨x, List.mem_of_getElem? h, hp⟩
def IdxOk (w : World) (b : Bool) (r : Ending) (w' : World) : Prop := ∃ i : Int, r = .returned (.int .i64 i) ∧ i64 i ∧ (decide (0 ≤ i) = b) ∧ Below w.heap.size w w'
theorem take_eq_snoc {xs ys : List Int} {k : Nat} {x y : Int} (h : xs.take k = ys.take k) (hx : xs[k]? = some x) (hy : ys[k]? = some y) (he : x = y) : xs.take (k + 1) = ys.take (k + 1) := by
  rw [List.take_add_one, List.take_add_one, h, hx, hy, he]
def u64C (l : List Nat) : List Value := l.map fun (x : Nat) => Value.int .u64 (x : Int)
theorem u64C_len (l : List Nat) : (u64C l).length = l.length := by simp [u64C]
theorem u64C_snoc (l : List Nat) (x : Nat) : u64C (l ++ [x]) = u64C l ++ [.int .u64 (x : Int)] := by simp [u64C]
theorem own_fz {w w' : World} {X : Nat → Prop} {B e z n : Nat} {u : Value} {xs : List Value} (hf : Fz X w w') (ho : w.ownsRow B e z u n xs) (hn : ∀ k, X k → u.ownBlock ≠ some k) : w'.ownsRow B e z u n xs := by
  refine ⟨ho.1, ?_⟩
  rcases ho.2 with h0 | ⟨g, cap, cur, h1, h2, h3, rest⟩
  · exact .inl h0
  · exact .inr ⟨g, cap, cur, h1, h2, (hf.block g (Array.getElem?_eq_some_iff.1 h3).1 (fun hx => hn g hx (by rw [h1]; rfl))).trans h3, rest⟩
theorem Cells.on {W W' : World} {g t : Nat} {cs : Array Value} (h : Cells W g t cs) (hb : Below W.heap.size W W') : Cells W' g t cs := (hb.block _ h.lt).trans h
end Go.Proofs.YtojinnnpfjhifaaGreatDoor.G

namespace Go.Proofs.YtojinnnpfjhifaaGreatDoor.G
def blkB (c : Nat) : Bool := c == 9 || c == 10 || c == 12 || c == 13 || c == 32
def ltrB (c : Nat) : Bool := (decide (65 ≤ c) && decide (c ≤ 90)) || (decide (97 ≤ c) && decide (c ≤ 122))
def lowN (c : Nat) : Nat := if 65 ≤ c ∧ c ≤ 90 then c + 32 else c
def lowL (l : List Nat) : List Nat := l.map lowN
abbrev AT := List Nat × List Nat
structure TG where
  kind : Nat
  size : Nat
  name : List Nat
  attrs : List AT
  single : Bool
  closed : Bool
/-- What is passed up to the first byte that ends a run, and what is left. -/
def runW (e : Nat → Bool) (l : List Nat) : List Nat := l.takeWhile (fun c => !e c)
def restW (e : Nat → Bool) (l : List Nat) : List Nat := l.dropWhile (fun c => !e c)
def eName (c : Nat) : Bool := blkB c || c == 47 || c == 62
def eAttr (c : Nat) : Bool := blkB c || c == 47 || c == 62 || c == 61
def eSep (c : Nat) : Bool := !(blkB c || c == 47)
def eBlk (c : Nat) : Bool := !blkB c
def eVal (c : Nat) : Bool := blkB c || c == 62
def eQ (q c : Nat) : Bool := c == q
theorem runW_nil (e : Nat → Bool) : runW e [] = [] := rfl
theorem restW_nil (e : Nat → Bool) : restW e [] = [] := rfl
theorem runW_hit {e : Nat → Bool} {c : Nat} (l : List Nat) (h : e c = true) : runW e (c :: l) = [] := by simp [runW, h]
theorem restW_hit {e : Nat → Bool} {c : Nat} (l : List Nat) (h : e c = true) : restW e (c :: l) = c :: l := by simp [restW, h]
theorem runW_miss {e : Nat → Bool} {c : Nat} (l : List Nat) (h : e c = false) : runW e (c :: l) = c :: runW e l := by simp [runW, h]
theorem restW_miss {e : Nat → Bool} {c : Nat} (l : List Nat) (h : e c = false) : restW e (c :: l) = restW e l := by simp [restW, h]
theorem run_rest (e : Nat → Bool) (l : List Nat) : runW e l ++ restW e l = l := List.takeWhile_append_dropWhile
theorem restW_len (e : Nat → Bool) (l : List Nat) : (restW e l).length = l.length - (runW e l).length := by
  have := congrArg List.length (run_rest e l)
  simp at this
  omega
theorem runW_le (e : Nat → Bool) (l : List Nat) : (runW e l).length ≤ l.length := by
  have := congrArg List.length (run_rest e l)
  simp at this
  omega
theorem restW_le (e : Nat → Bool) (l : List Nat) : (restW e l).length ≤ l.length := by
  have := congrArg List.length (run_rest e l)
  simp at this
  omega
theorem restW_head {e : Nat → Bool} : ∀ {l : List Nat} {c : Nat} {t : List Nat}, restW e l = c :: t → e c = true
  | [], c, t, h => by cases h
  | x :: l, c, t, h => by
    cases hx : e x with
    | true =>
      rw [restW_hit l hx] at h
      injection h with h1 _
      rw [← h1]; exact hx
    | false =>
      rw [restW_miss l hx] at h
      exact restW_head h
theorem restW_eq_drop (e : Nat → Bool) (l : List Nat) : restW e l = l.drop (runW e l).length := by
  have h : l.drop (runW e l).length = (runW e l ++ restW e l).drop (runW e l).length := by rw [run_rest]
  rw [h, List.drop_left]
theorem runW_eq_take (e : Nat → Bool) (l : List Nat) : runW e l = l.take (runW e l).length := by
  have h : l.take (runW e l).length = (runW e l ++ restW e l).take (runW e l).length := by rw [run_rest]
  rw [h, List.take_left]

/-- The code's way. -/
def valueR (l : List Nat) : List Nat × List Nat := match l with
  | [] => ([], [])
  | c :: t => if c = 34 ∨ c = 39 then (runW (eQ c) t, (restW (eQ c) t).drop 1) else (runW eVal (c :: t), restW eVal (c :: t))
def attrN (l : List Nat) : List Nat := lowL (l.take 1 ++ runW eAttr (l.drop 1))
def attrP (l : List Nat) : List Nat := restW eBlk (restW eAttr (l.drop 1))
def attrR (l : List Nat) : AT × List Nat := match attrP l with
  | [] => ((attrN l, []), [])
  | c :: t => if c = 61 then ((attrN l, (valueR (restW eBlk t)).1), (valueR (restW eBlk t)).2) else ((attrN l, []), c :: t)
theorem valueR_le (l : List Nat) : (valueR l).2.length ≤ l.length := by
  unfold valueR
  split
  · simp
  · rename_i c t
    split
    · have := restW_le (eQ c) t
      simp
      omega
    · exact restW_le _ _
theorem attrR_lt {l : List Nat} (h : l ≠ []) : (attrR l).2.length < l.length := by
  have h0 : (l.drop 1).length < l.length := by
    cases l with
    | nil => exact absurd rfl h
    | cons c t => simp
  have h1 : (attrP l).length ≤ (l.drop 1).length := Nat.le_trans (restW_le _ _) (restW_le _ _)
  unfold attrR
  split
  · simp; cases l with
    | nil => exact absurd rfl h
    | cons c t => simp
  · rename_i c t e
    rw [e] at h1
    simp at h1
    split
    · have h2 := valueR_le (restW eBlk t)
      have h3 := restW_le eBlk t
      simp at h0 ⊢
      omega
    · simp at h0 ⊢
      omega
/-- A tag's reading goes on behind its name: N bytes in all. -/
def tagR (N kind : Nat) (name : List Nat) : Nat → List AT → List Nat → TG
  | f, atl, l => match restW eSep l with
    | [] => ⟨kind, N, name, atl, false, false⟩
    | c :: t => if c = 62 then ⟨kind, N - t.length, name, atl, (runW eSep l).getLast? == some 47, true⟩
      else match f with
        | 0 => ⟨kind, N, name, atl, false, false⟩
        | f + 1 => tagR N kind name f (atl ++ [(attrR (c :: t)).1]) (attrR (c :: t)).2

/-- The document's way: a state for each byte. -/
structure RS where
  st : Nat
  slash : Bool
  tn : List Nat
  nm : List Nat
  vl : List Nat
  q : Nat
  atl : List AT
def refStep (s : RS) (c : Nat) : RS × Bool := match s.st with
  | 0 => if blkB c || c == 47 || c == 62 then ({ s with st := 1, slash := c == 47 }, c == 62) else ({ s with tn := s.tn ++ [lowN c] }, c == 62)
  | 1 => if c == 62 then (s, true) else if blkB c || c == 47 then ({ s with slash := c == 47 }, false) else ({ s with st := 2, nm := [lowN c], vl := [] }, false)
  | 2 => if c == 61 then ({ s with st := 4 }, c == 62) else if blkB c then ({ s with st := 3 }, c == 62)
    else if c == 47 || c == 62 then ({ s with atl := s.atl ++ [(s.nm, [])], st := 1, slash := c == 47 }, c == 62) else ({ s with nm := s.nm ++ [lowN c] }, c == 62)
  | 3 => if blkB c then (s, c == 62) else if c == 61 then ({ s with st := 4 }, c == 62)
    else if c == 47 || c == 62 then ({ s with atl := s.atl ++ [(s.nm, [])], st := 1, slash := c == 47 }, c == 62)
    else ({ s with atl := s.atl ++ [(s.nm, [])], st := 2, slash := c == 47, nm := [lowN c], vl := [] }, c == 62)
  | 4 => if blkB c then (s, c == 62) else if c == 34 || c == 39 then ({ s with st := 6, q := c }, c == 62)
    else if c == 62 then ({ s with atl := s.atl ++ [(s.nm, [])], st := 1, slash := false }, true) else ({ s with st := 5, vl := [c] }, false)
  | 5 => if blkB c || c == 62 then ({ s with atl := s.atl ++ [(s.nm, s.vl)], st := 1, slash := false }, c == 62) else ({ s with vl := s.vl ++ [c] }, c == 62)
  | _ => if c == s.q then ({ s with atl := s.atl ++ [(s.nm, s.vl)], st := 1, slash := false }, false) else ({ s with vl := s.vl ++ [c] }, false)
def refEnd (N kind : Nat) (s : RS) : TG := ⟨kind, N, s.tn, if 2 ≤ s.st then s.atl ++ [(s.nm, s.vl)] else s.atl, false, false⟩
def refGo (N kind : Nat) : RS → List Nat → TG
  | s, [] => refEnd N kind s
  | s, c :: t => if (refStep s c).2 = true then ⟨kind, N - t.length, (refStep s c).1.tn, (refStep s c).1.atl, (refStep s c).1.slash, true⟩ else refGo N kind (refStep s c).1 t


theorem blk_not {c : Nat} (h : blkB c = true) : c ≠ 47 ∧ c ≠ 62 ∧ c ≠ 61 ∧ c ≠ 34 ∧ c ≠ 39 := by
  simp [blkB] at h
  omega
theorem ref_end {N kind : Nat} {s : RS} {c : Nat} {t : List Nat} {u : RS} (h : refStep s c = (u, true)) : refGo N kind s (c :: t) = ⟨kind, N - t.length, u.tn, u.atl, u.slash, true⟩ := by simp [refGo, h]
theorem ref_on {N kind : Nat} {s : RS} {c : Nat} {t : List Nat} {u : RS} (h : refStep s c = (u, false)) : refGo N kind s (c :: t) = refGo N kind u t := by simp [refGo, h]
theorem ref_st1_gt (N kind : Nat) (sl : Bool) (tn nm vl : List Nat) (q : Nat) (atl : List AT) (t : List Nat) : refGo N kind ⟨1, sl, tn, nm, vl, q, atl⟩ (62 :: t) = ⟨kind, N - t.length, tn, atl, sl, true⟩ := ref_end (u := ⟨1, sl, tn, nm, vl, q, atl⟩) rfl
theorem ref_st1_sl (N kind : Nat) (sl : Bool) (tn nm vl : List Nat) (q : Nat) (atl : List AT) (t : List Nat) : refGo N kind ⟨1, sl, tn, nm, vl, q, atl⟩ (47 :: t) = refGo N kind ⟨1, true, tn, nm, vl, q, atl⟩ t := ref_on rfl
theorem ref_st1_blk (N kind : Nat) (sl : Bool) (tn nm vl : List Nat) (q : Nat) (atl : List AT) {c : Nat} (hc : blkB c = true) (t : List Nat) : refGo N kind ⟨1, sl, tn, nm, vl, q, atl⟩ (c :: t) = refGo N kind ⟨1, false, tn, nm, vl, q, atl⟩ t := by
  have := blk_not hc
  exact ref_on (by simp [refStep, hc, this])
theorem ref_st1_else (N kind : Nat) (sl : Bool) (tn nm vl : List Nat) (q : Nat) (atl : List AT) {c : Nat} (hc : blkB c = false) (h1 : c ≠ 47) (h2 : c ≠ 62) (t : List Nat) : refGo N kind ⟨1, sl, tn, nm, vl, q, atl⟩ (c :: t) = refGo N kind ⟨2, sl, tn, [lowN c], [], q, atl⟩ t :=
  ref_on (by simp [refStep, hc, h1, h2])
/-- What of the state may be whatever it is. -/
def BtTo (N kind : Nat) (tn : List Nat) (atl : List AT) (l : List Nat) (r : TG) : Prop := ∃ nm vl q, r = refGo N kind ⟨1, false, tn, nm, vl, q, atl⟩ l
theorem ref_quotes (N kind : Nat) (sl : Bool) (tn nm : List Nat) (q : Nat) (atl : List AT) : ∀ (l vl : List Nat),
    refGo N kind ⟨6, sl, tn, nm, vl, q, atl⟩ l = refGo N kind ⟨1, false, tn, nm, vl ++ runW (eQ q) l, q, atl ++ [(nm, vl ++ runW (eQ q) l)]⟩ ((restW (eQ q) l).drop 1)
  | [], vl => by simp [refGo, refEnd, runW_nil, restW_nil]
  | c :: t, vl => by
    by_cases hc : c = q
    · subst hc
      rw [runW_hit t (by simp [eQ]), restW_hit t (by simp [eQ]), ref_on (u := ⟨1, false, tn, nm, vl, c, atl ++ [(nm, vl)]⟩) (by simp [refStep])]
      simp
    · rw [runW_miss t (by simp [eQ, hc]), restW_miss t (by simp [eQ, hc]), ref_on (u := ⟨6, sl, tn, nm, vl ++ [c], q, atl⟩) (by simp [refStep, hc]), ref_quotes N kind sl tn nm q atl t]
      simp
theorem ref_value (N kind : Nat) (sl : Bool) (tn nm : List Nat) (q : Nat) (atl : List AT) : ∀ (l vl : List Nat),
    BtTo N kind tn (atl ++ [(nm, vl ++ runW eVal l)]) (restW eVal l) (refGo N kind ⟨5, sl, tn, nm, vl, q, atl⟩ l)
  | [], vl => ⟨nm, vl, q, by simp [refGo, refEnd, runW_nil, restW_nil]⟩
  | c :: t, vl => by
    by_cases hb : blkB c = true
    · have hn := blk_not hb
      rw [runW_hit t (by simp [eVal, hb]), restW_hit t (by simp [eVal, hb])]
      refine ⟨nm, vl, q, ?_⟩
      rw [ref_st1_blk _ _ _ _ _ _ _ _ hb, ref_on (u := ⟨1, false, tn, nm, vl, q, atl ++ [(nm, vl)]⟩) (by simp [refStep, hb, hn])]
      simp
    · have hb : blkB c = false := by simpa using hb
      by_cases h62 : c = 62
      · subst h62
        rw [runW_hit t rfl, restW_hit t rfl]
        refine ⟨nm, vl, q, ?_⟩
        rw [ref_st1_gt, ref_end (u := ⟨1, false, tn, nm, vl, q, atl ++ [(nm, vl)]⟩) rfl]
        simp
      · rw [runW_miss t (by simp [eVal, hb, h62]), restW_miss t (by simp [eVal, hb, h62]), ref_on (u := ⟨5, sl, tn, nm, vl ++ [c], q, atl⟩) (by simp [refStep, hb, h62])]
        have := ref_value N kind sl tn nm q atl t (vl ++ [c])
        simpa using this
theorem eBlk_of {c : Nat} (h : blkB c = true) : eBlk c = false := by simp [eBlk, h]
theorem eBlk_not {c : Nat} (h : blkB c = false) : eBlk c = true := by simp [eBlk, h]
theorem ref_equals (N kind : Nat) (sl : Bool) (tn nm : List Nat) (q : Nat) (atl : List AT) : ∀ (l : List Nat),
    BtTo N kind tn (atl ++ [(nm, (valueR (restW eBlk l)).1)]) (valueR (restW eBlk l)).2 (refGo N kind ⟨4, sl, tn, nm, [], q, atl⟩ l)
  | [] => ⟨nm, [], q, by simp [refGo, refEnd, restW_nil, valueR]⟩
  | c :: t => by
    by_cases hb : blkB c = true
    · have hn := blk_not hb
      rw [restW_miss t (eBlk_of hb), ref_on (u := ⟨4, sl, tn, nm, [], q, atl⟩) (by simp [refStep, hb, hn])]
      exact ref_equals N kind sl tn nm q atl t
    · have hb : blkB c = false := by simpa using hb
      rw [restW_hit t (eBlk_not hb)]
      by_cases hq : c = 34 ∨ c = 39
      · have e : valueR (c :: t) = (runW (eQ c) t, (restW (eQ c) t).drop 1) := by simp [valueR, hq]
        rw [e, ref_on (u := ⟨6, sl, tn, nm, [], c, atl⟩) (by rcases hq with rfl | rfl <;> rfl), ref_quotes]
        exact ⟨nm, runW (eQ c) t, c, by simp⟩
      · have e : valueR (c :: t) = (runW eVal (c :: t), restW eVal (c :: t)) := by simp [valueR, hq]
        rw [e]
        by_cases h62 : c = 62
        · subst h62
          rw [runW_hit t rfl, restW_hit t rfl]
          refine ⟨nm, [], q, ?_⟩
          rw [ref_st1_gt, ref_end (u := ⟨1, false, tn, nm, [], q, atl ++ [(nm, [])]⟩) rfl]
        · have hq' : c ≠ 34 ∧ c ≠ 39 := by omega
          rw [runW_miss t (by simp [eVal, hb, h62]), restW_miss t (by simp [eVal, hb, h62]), ref_on (u := ⟨5, sl, tn, nm, [c], q, atl⟩) (by simp [refStep, hb, h62, hq'])]
          exact ref_value N kind sl tn nm q atl t [c]
/-- An attribute, once its name is read. -/
def tailR (nm : List Nat) (r : List Nat) : AT × List Nat := match r with
  | [] => ((nm, []), [])
  | c :: t => if c = 61 then ((nm, (valueR (restW eBlk t)).1), (valueR (restW eBlk t)).2) else ((nm, []), c :: t)
theorem attrR_tail (l : List Nat) : attrR l = tailR (attrN l) (attrP l) := rfl
theorem ref_behind (N kind : Nat) (sl : Bool) (tn nm : List Nat) (q : Nat) (atl : List AT) : ∀ (l : List Nat),
    BtTo N kind tn (atl ++ [(tailR nm (restW eBlk l)).1]) (tailR nm (restW eBlk l)).2 (refGo N kind ⟨3, sl, tn, nm, [], q, atl⟩ l)
  | [] => ⟨nm, [], q, by simp [refGo, refEnd, restW_nil, tailR]⟩
  | c :: t => by
    by_cases hb : blkB c = true
    · have hn := blk_not hb
      rw [restW_miss t (eBlk_of hb), ref_on (u := ⟨3, sl, tn, nm, [], q, atl⟩) (by simp [refStep, hb, hn])]
      exact ref_behind N kind sl tn nm q atl t
    · have hb : blkB c = false := by simpa using hb
      rw [restW_hit t (eBlk_not hb)]
      by_cases h61 : c = 61
      · subst h61
        rw [ref_on (u := ⟨4, sl, tn, nm, [], q, atl⟩) rfl]
        exact ref_equals N kind sl tn nm q atl t
      · have e : tailR nm (c :: t) = ((nm, []), c :: t) := by simp [tailR, h61]
        rw [e]
        by_cases h62 : c = 62
        · subst h62
          exact ⟨nm, [], q, by rw [ref_st1_gt, ref_end (u := ⟨1, false, tn, nm, [], q, atl ++ [(nm, [])]⟩) rfl]⟩
        · by_cases h47 : c = 47
          · subst h47
            exact ⟨nm, [], q, by rw [ref_st1_sl, ref_on (u := ⟨1, true, tn, nm, [], q, atl ++ [(nm, [])]⟩) rfl]⟩
          · exact ⟨nm, [], q, by rw [ref_st1_else _ _ _ _ _ _ _ _ hb h47 h62, ref_on (u := ⟨2, false, tn, [lowN c], [], q, atl ++ [(nm, [])]⟩) (by simp [refStep, hb, h47, h62, h61])]⟩
theorem ref_attr (N kind : Nat) (sl : Bool) (tn : List Nat) (q : Nat) (atl : List AT) : ∀ (l nm : List Nat),
    BtTo N kind tn (atl ++ [(tailR (nm ++ lowL (runW eAttr l)) (restW eBlk (restW eAttr l))).1]) (tailR (nm ++ lowL (runW eAttr l)) (restW eBlk (restW eAttr l))).2 (refGo N kind ⟨2, sl, tn, nm, [], q, atl⟩ l)
  | [], nm => ⟨nm, [], q, by simp [refGo, refEnd, restW_nil, runW_nil, tailR, lowL]⟩
  | c :: t, nm => by
    by_cases hb : blkB c = true
    · have hn := blk_not hb
      rw [runW_hit t (by simp [eAttr, hb]), restW_hit t (by simp [eAttr, hb]), restW_miss t (eBlk_of hb), ref_on (u := ⟨3, sl, tn, nm, [], q, atl⟩) (by simp [refStep, hb, hn])]
      simpa [lowL] using ref_behind N kind sl tn nm q atl t
    · have hb : blkB c = false := by simpa using hb
      by_cases h61 : c = 61
      · subst h61
        rw [runW_hit t rfl, restW_hit t rfl, restW_hit t rfl, ref_on (u := ⟨4, sl, tn, nm, [], q, atl⟩) rfl]
        simpa [lowL, tailR] using ref_equals N kind sl tn nm q atl t
      · by_cases h62 : c = 62
        · subst h62
          rw [runW_hit t rfl, restW_hit t rfl, restW_hit t rfl]
          exact ⟨nm, [], q, by simp only [lowL, List.map_nil, List.append_nil, tailR]; rw [if_neg (by decide), ref_st1_gt, ref_end (u := ⟨1, false, tn, nm, [], q, atl ++ [(nm, [])]⟩) rfl]⟩
        · by_cases h47 : c = 47
          · subst h47
            rw [runW_hit t rfl, restW_hit t rfl, restW_hit t rfl]
            exact ⟨nm, [], q, by simp only [lowL, List.map_nil, List.append_nil, tailR]; rw [if_neg (by decide), ref_st1_sl, ref_on (u := ⟨1, true, tn, nm, [], q, atl ++ [(nm, [])]⟩) rfl]⟩
          · have he : eAttr c = false := by simp [eAttr, hb, h61, h62, h47]
            rw [runW_miss t he, restW_miss t he, ref_on (u := ⟨2, sl, tn, nm ++ [lowN c], [], q, atl⟩) (by simp [refStep, hb, h47, h62, h61])]
            simpa [lowL] using ref_attr N kind sl tn q atl t (nm ++ [lowN c])
theorem ref_between (N kind : Nat) (tn nm vl : List Nat) (q : Nat) (atl : List AT) : ∀ (l : List Nat) (sl : Bool),
    refGo N kind ⟨1, sl, tn, nm, vl, q, atl⟩ l = match restW eSep l with
      | [] => ⟨kind, N, tn, atl, false, false⟩
      | c :: t => if c = 62 then ⟨kind, N - t.length, tn, atl, (match (runW eSep l).getLast? with | none => sl | some x => x == 47), true⟩ else refGo N kind ⟨2, (match (runW eSep l).getLast? with | none => sl | some x => x == 47), tn, [lowN c], [], q, atl⟩ t
  | [], sl => by simp [refGo, refEnd, restW_nil]
  | c :: t, sl => by
    have hl : ∀ (r : List Nat) (s : Bool), (c :: r).getLast? = some ((r.getLast?).getD c) := fun r s => by simp [List.getLast?_cons]
    by_cases hb : blkB c = true
    · have hn := blk_not hb
      have e47 : (c == 47) = false := by simp [hn]
      rw [ref_st1_blk _ _ _ _ _ _ _ _ hb, restW_miss t (by simp [eSep, hb]), runW_miss t (by simp [eSep, hb]), ref_between N kind tn nm vl q atl t, hl _ sl]
      cases (runW eSep t).getLast? <;> simp [e47]
    · have hb : blkB c = false := by simpa using hb
      by_cases h47 : c = 47
      · subst h47
        rw [ref_st1_sl, restW_miss t rfl, runW_miss t rfl, ref_between N kind tn nm vl q atl t, hl _ sl]
        cases (runW eSep t).getLast? <;> simp
      · have he : eSep c = true := by simp [eSep, hb, h47]
        rw [restW_hit t he, runW_hit t he]
        by_cases h62 : c = 62
        · subst h62
          rw [ref_st1_gt]; rfl
        · rw [ref_st1_else _ _ _ _ _ _ _ _ hb h47 h62]
          simp [h62]
/-- Both ways, behind the name. -/
theorem ref_tagR (N kind : Nat) (tn : List Nat) : ∀ (f : Nat) (atl : List AT) (l nm vl : List Nat) (q : Nat), l.length ≤ f → refGo N kind ⟨1, false, tn, nm, vl, q, atl⟩ l = tagR N kind tn f atl l := by
  intro f
  induction f with
  | zero =>
    intro atl l nm vl q h
    have : l = [] := List.eq_nil_of_length_eq_zero (by omega)
    subst this
    simp [refGo, refEnd, tagR, restW_nil]
  | succ f ih =>
    intro atl l nm vl q h
    rw [ref_between, tagR]
    have hle := restW_le eSep l
    cases e : restW eSep l with
    | nil => rfl
    | cons c t =>
      rw [e] at hle
      dsimp only
      by_cases h62 : c = 62
      · rw [if_pos h62, if_pos h62]
        cases (runW eSep l).getLast? <;> simp
      · rw [if_neg h62, if_neg h62]
        obtain ⟨nm', vl', q', hh⟩ := ref_attr N kind (match (runW eSep l).getLast? with | none => false | some x => x == 47) tn q atl t [lowN c]
        rw [hh]
        have ea : attrR (c :: t) = tailR ([lowN c] ++ lowL (runW eAttr t)) (restW eBlk (restW eAttr t)) := by
          rw [attrR_tail]
          simp [attrN, attrP, lowL]
        rw [ea]
        refine ih _ _ _ _ _ ?_
        rw [← ea]
        have := attrR_lt (l := c :: t) (by simp)
        omega
theorem ref_name (N kind : Nat) (nm vl : List Nat) (q : Nat) (atl : List AT) : ∀ (l tn : List Nat) (sl : Bool),
    refGo N kind ⟨0, sl, tn, nm, vl, q, atl⟩ l = refGo N kind ⟨1, false, tn ++ lowL (runW eName l), nm, vl, q, atl⟩ (restW eName l)
  | [], tn, sl => by simp [refGo, refEnd, runW_nil, restW_nil, lowL]
  | c :: t, tn, sl => by
    by_cases hb : blkB c = true
    · have hn := blk_not hb
      rw [runW_hit t (by simp [eName, hb]), restW_hit t (by simp [eName, hb]), ref_st1_blk _ _ _ _ _ _ _ _ hb, ref_on (u := ⟨1, false, tn, nm, vl, q, atl⟩) (by simp [refStep, hb, hn])]
      simp [lowL]
    · have hb : blkB c = false := by simpa using hb
      by_cases h62 : c = 62
      · subst h62
        rw [runW_hit t rfl, restW_hit t rfl, ref_st1_gt, ref_end (u := ⟨1, false, tn, nm, vl, q, atl⟩) rfl]
        simp [lowL]
      · by_cases h47 : c = 47
        · subst h47
          rw [runW_hit t rfl, restW_hit t rfl, ref_st1_sl, ref_on (u := ⟨1, true, tn, nm, vl, q, atl⟩) rfl]
          simp [lowL]
        · have he : eName c = false := by simp [eName, hb, h62, h47]
          rw [runW_miss t he, restW_miss t he, ref_on (u := ⟨0, sl, tn ++ [lowN c], nm, vl, q, atl⟩) (by simp [refStep, hb, h47, h62]), ref_name N kind nm vl q atl t]
          simp [lowL]
def rs0 : RS := ⟨0, false, [], [], [], 0, []⟩
/-- A tag's reading is the document's. -/
theorem ref_tag (N kind : Nat) (l : List Nat) : refGo N kind rs0 l = tagR N kind (lowL (runW eName l)) (restW eName l).length [] (restW eName l) := by
  unfold rs0
  rw [ref_name, List.nil_append]
  exact ref_tagR _ _ _ _ _ _ _ _ _ (Nat.le_refl _)
end Go.Proofs.YtojinnnpfjhifaaGreatDoor.G

namespace Go.Proofs.YtojinnnpfjhifaaGreatDoor.G
open Go.RowKit Go.Shelf Go.Lib Go.Maps

/-- A slice of bytes. -/
structure BY (w : World) (B : Nat) (xs : List Nat) (A : Option Addr) (cap : Nat) : Prop where
  l : xs.length ≤ cap
  m : cap ≤ maxLen
  z : A = none → cap = 0
  i : ∀ x ∈ xs, x < 256
  r : xs ≠ [] → ∃ b o, A = some ⟨b, o, none⟩ ∧ b < B ∧ ∀ (i : Nat) (x : Nat), xs[i]? = some x → w.cell? ⟨b, o + i, none⟩ = some (.int .u8 (x : Int))
theorem BY.below {w w' : World} {B : Nat} {xs : List Nat} {A : Option Addr} {cap : Nat} (h : BY w B xs A cap) (hb : Below B w w') : BY w' B xs A cap :=
  ⟨h.l, h.m, h.z, h.i, fun hne => by
    obtain ⟨b, o, rfl, hl, hr⟩ := h.r hne
    exact ⟨b, o, rfl, hl, fun i x hx => (hb.cell (p := ⟨b, _, none⟩) hl).trans (hr i x hx)⟩⟩
theorem BY.mono {w : World} {B B' : Nat} {xs : List Nat} {A : Option Addr} {cap : Nat} (h : BY w B xs A cap) (hB : B ≤ B') : BY w B' xs A cap :=
  ⟨h.l, h.m, h.z, h.i, fun hne => by
    obtain ⟨b, o, rfl, hl, hr⟩ := h.r hne
    exact ⟨b, o, rfl, by omega, hr⟩⟩
theorem BY.on {w w' : World} {xs : List Nat} {A : Option Addr} {cap : Nat} (h : BY w w.heap.size xs A cap) (hb : Below w.heap.size w w') : BY w' w'.heap.size xs A cap := (h.below hb).mono hb.size
theorem BY.at {w : World} {B : Nat} {xs : List Nat} {A : Option Addr} {cap i x : Nat} (h : BY w B xs A cap) (hx : xs[i]? = some x) : ∃ b o, A = some ⟨b, o, none⟩ ∧ b < B ∧ w.cell? ⟨b, o + i, none⟩ = some (.int .u8 (x : Int)) := by
  obtain ⟨b, o, e, hb, hc⟩ := h.r (by rintro rfl; simp at hx)
  exact ⟨b, o, e, hb, hc i x hx⟩
theorem BY.lt {w : World} {B : Nat} {xs : List Nat} {A : Option Addr} {cap i x : Nat} (h : BY w B xs A cap) (hx : xs[i]? = some x) : x < 256 := h.i x (List.mem_of_getElem? hx)
theorem BY.len {w : World} {B : Nat} {xs : List Nat} {A : Option Addr} {cap : Nat} (h : BY w B xs A cap) : xs.length ≤ 9223372036854775807 := by have := h.l; have := h.m; unfold maxLen at this; omega
theorem BY.drop {w : World} {B : Nat} {xs : List Nat} {b o cap k : Nat} (h : BY w B xs (some ⟨b, o, none⟩) cap) (hk : k < xs.length) : BY w B (xs.drop k) (some ⟨b, o + k, none⟩) (cap - k) :=
  ⟨(by have hh := h.l; simp; omega), (by have hh := h.m; omega), fun e => (by cases e), fun x hx => h.i x (List.mem_of_mem_drop hx), fun hne => by
    obtain ⟨b', o', e, hl, hr⟩ := h.r (by rintro rfl; simp at hk)
    obtain ⟨rfl, rfl⟩ : b = b' ∧ o = o' := by simpa using e
    exact ⟨b, o + k, rfl, hl, fun i x hx => by
      rw [List.getElem?_drop] at hx
      rw [Nat.add_assoc]
      exact hr _ x hx⟩⟩
theorem BY.take {w : World} {B : Nat} {xs : List Nat} {A : Option Addr} {cap : Nat} (h : BY w B xs A cap) (k : Nat) : BY w B (xs.take k) A cap :=
  ⟨(by have hh := h.l; simp; omega), h.m, h.z, fun x hx => h.i x (List.mem_of_mem_take hx), fun hne => by
    obtain ⟨b, o, rfl, hl, hr⟩ := h.r (by rintro rfl; simp at hne)
    exact ⟨b, o, rfl, hl, fun i x hx => by
      rw [List.getElem?_take] at hx
      split at hx
      · exact hr i x hx
      · cases hx⟩⟩
theorem drop_at {α : Type} {l : List α} {k : Nat} {x : α} (h : l[k]? = some x) : l.drop k = x :: l.drop (k + 1) := by
  obtain ⟨hk, rfl⟩ := List.getElem?_eq_some_iff.1 h
  exact List.drop_eq_getElem_cons hk
theorem at_lt {α : Type} {l : List α} {k : Nat} (h : k < l.length) : ∃ x, l[k]? = some x := ⟨l[k], List.getElem?_eq_getElem h⟩
end Go.Proofs.YtojinnnpfjhifaaGreatDoor.G

namespace Go.Proofs.YtojinnnpfjhifaaGreatDoor.G
open Go.RowKit Go.Shelf Go.Lib Go.Maps

def u8s (l : List Nat) : List UInt8 := l.map UInt8.ofNat
def nats (l : List UInt8) : List Nat := l.map UInt8.toNat
theorem u8s_len (l : List Nat) : (u8s l).length = l.length := by simp [u8s]
theorem nats_len (l : List UInt8) : (nats l).length = l.length := by simp [nats]
theorem nats_u8s (l : List Nat) (h : ∀ x ∈ l, x < 256) : nats (u8s l) = l := by
  unfold nats u8s
  rw [List.map_map]
  conv => rhs; rw [← List.map_id l]
  exact List.map_congr_left fun x hx => by simp [h x hx]
theorem u8s_nats (l : List UInt8) : u8s (nats l) = l := by
  unfold nats u8s
  rw [List.map_map]
  conv => rhs; rw [← List.map_id l]
  exact List.map_congr_left fun x _ => by simp
theorem nats_lt (l : List UInt8) : ∀ x ∈ nats l, x < 256 := by
  intro x hx
  obtain ⟨u, _, rfl⟩ := List.mem_map.1 hx
  exact u.toNat_lt
theorem u8s_inj {l m : List Nat} (hl : ∀ x ∈ l, x < 256) (hm : ∀ x ∈ m, x < 256) (h : u8s l = u8s m) : l = m := by
  rw [← nats_u8s l hl, ← nats_u8s m hm, h]
def u8C (l : List Nat) : List Value := l.map fun (x : Nat) => Value.int .u8 (x : Int)
theorem u8C_len (l : List Nat) : (u8C l).length = l.length := by simp [u8C]
theorem byteCells_u8s (l : List Nat) (h : ∀ x ∈ l, x < 256) : Lib.byteCells (u8s l) = u8C l := by
  unfold Lib.byteCells u8s u8C
  rw [List.map_map]
  refine List.map_congr_left fun x hx => ?_
  have := h x hx
  simp [Nat.mod_eq_of_lt this]
theorem BY.dropL {w : World} {B : Nat} {xs : List Nat} {b o cap k : Nat} (h : BY w B xs (some ⟨b, o, none⟩) cap) (hk : k ≤ xs.length) : BY w B (xs.drop k) (some ⟨b, o + k, none⟩) (cap - k) :=
  ⟨(by have hh := h.l; simp; omega), (by have hh := h.m; omega), fun e => (by cases e), fun x hx => h.i x (List.mem_of_mem_drop hx), fun hne => by
    obtain ⟨b', o', e, hl, hr⟩ := h.r (by rintro rfl; simp at hne)
    obtain ⟨rfl, rfl⟩ : b = b' ∧ o = o' := by simpa using e
    exact ⟨b, o + k, rfl, hl, fun i x hx => by
      rw [List.getElem?_drop] at hx
      rw [Nat.add_assoc]
      exact hr _ x hx⟩⟩
/-- The first place at which something is so. -/
def idxL (p : Nat → Bool) (l : List Nat) : Int := match l.findIdx? p with
  | none => -1
  | some i => (i : Int)
theorem idxL_none {p : Nat → Bool} {l : List Nat} (h : ∀ (j x : Nat), l[j]? = some x → p x = false) : idxL p l = -1 := by
  have e1 : l.findIdx? p = none := by
    rw [List.findIdx?_eq_none_iff]
    intro x hx
    obtain ⟨j, hj, e⟩ := List.getElem_of_mem hx
    exact h j x (by rw [List.getElem?_eq_getElem hj, e])
  rw [idxL, e1]
theorem idxL_some {p : Nat → Bool} {l : List Nat} {k x : Nat} (hx : l[k]? = some x) (hp : p x = true) (h : ∀ (j y : Nat), j < k → l[j]? = some y → p y = false) : idxL p l = (k : Int) := by
  obtain ⟨hk, e⟩ := List.getElem?_eq_some_iff.1 hx
  have e1 : l.findIdx? p = some k := by
    rw [List.findIdx?_eq_some_iff_getElem]
    exact ⟨hk, by rw [e]; exact hp, fun j hj => by
      rw [h j _ hj (List.getElem?_eq_getElem _)]
      simp⟩
  rw [idxL, e1]
theorem idxL_run (p : Nat → Bool) : ∀ (l : List Nat), (idxL p l = -1 ∧ runW p l = l) ∨ (idxL p l = ((runW p l).length : Int) ∧ (runW p l).length < l.length)
  | [] => .inl ⟨rfl, rfl⟩
  | c :: t => by
    cases hc : p c with
    | true =>
      right
      rw [runW_hit t hc]
      exact ⟨by simp [idxL, List.findIdx?_cons, hc], by simp⟩
    | false =>
      rw [runW_miss t hc]
      rcases idxL_run p t with ⟨h1, h2⟩ | ⟨h1, h2⟩
      · left
        refine ⟨?_, by rw [h2]⟩
        unfold idxL at h1 ⊢
        rw [List.findIdx?_cons, hc]
        cases e : t.findIdx? p with
        | none => rfl
        | some i => rw [e] at h1; simp at h1
      · right
        refine ⟨?_, by simp; omega⟩
        unfold idxL at h1 ⊢
        rw [List.findIdx?_cons, hc]
        cases e : t.findIdx? p with
        | none => rw [e] at h1; simp at h1
        | some i => rw [e] at h1; simp at h1 ⊢; omega
end Go.Proofs.YtojinnnpfjhifaaGreatDoor.G

namespace Go.Proofs.YtojinnnpfjhifaaGreatDoor.G
open Go.RowKit Go.Shelf Go.Lib Go.Maps

/-- A parser in memory: how far it has read, and what it has. -/
def PCs (b o N cap at' : Nat) (k s nm ats sg cl : Value) : Array Value := #[.slice (some ⟨b, o, none⟩) N cap, .int .i64 (at' : Int), k, s, nm, ats, sg, cl]
theorem Fz.cells {X : Nat → Prop} {w w' : World} {g t : Nat} {cs : Array Value} (h : Fz X w w') (hg : ¬ X g) (hc : Cells w g t cs) : Cells w' g t cs := (h.block g hc.lt hg).trans hc
theorem Fz.drewN {X : Nat → Prop} {w w' : World} (h : Fz X w w') (n : Nat) : Fz X w (w'.drewN n) := ⟨h.os, h.tape, h.output, h.size, h.block⟩
theorem BY.fz {X : Nat → Prop} {w w' : World} {B : Nat} {xs : List Nat} {A : Option Addr} {cap : Nat} (h : BY w B xs A cap) (hf : Fz X w w') (hB : B ≤ w.heap.size) (hX : ∀ k, k < B → ¬ X k) : BY w' B xs A cap := h.below (hf.below hB hX)

set_option maxHeartbeats 4000000 in
set_option maxRecDepth 100000 in
theorem idx35_any (c0 : Addr) (p : Nat → Bool) (xs : List Nat) (A : Option Addr) (cap : Nat) (w : World) (h : BY w w.heap.size xs A cap)
    (K : ∀ W, Below w.heap.size w W → ∀ c : Nat, c < 256 → Calls Tryz.prog 92 #[.int .u8 (c : Int), .pointer (some c0)] W fun e w' => e = .returned (.bool (p c)) ∧ Below W.heap.size W w') :
    Calls Tryz.prog 122 #[.slice A xs.length cap, .func (Fn.func 92) #[] #[.pointer (some c0)]] w fun e w' => e = .returned (.int .i64 (idxL p xs)) ∧ Below w.heap.size w w' := by
  have hlen := h.len
  obtain ⟨N, hN⟩ : ∃ N, xs.length = N := ⟨_, rfl⟩
  rw [hN] at hlen ⊢
  have HH := Lib.hid (And.intro h (And.intro hN K))
  clear h hN K
  go_enter Tryz.func122, Tryz.ntmps122
  go_wp2_with fail
  go_loopw [5, 8] (fun _ i wr => ∃ k : Nat, i = .int .i64 (k : Int) ∧ k ≤ N ∧ (∀ (j : Nat) (y : Nat), j < k → xs[j]? = some y → p y = false) ∧ Below w.heap.size w wr) (fun _ i _ => N - (RowKit.intOf i).toNat)
  case atStart => exact ⟨0, by go_num, by omega, fun j y hj => absurd hj (by omega), Below.refl _ _⟩
  case round =>
    obtain ⟨k, rfl, hk, hj, hb⟩ := hrel
    by_cases hlt : k < N
    case neg =>
      obtain rfl : k = N := by omega
      have he := idxL_none (p := p) (l := xs) fun j x hx => hj j x (by have := (List.getElem?_eq_some_iff.1 hx).1; rw [HH.out.2.1] at this; exact this) hx
      have HE := Lib.hid (And.intro he hb)
      clear he hj hb
      go_wp2_with fail
      go_ret
      exact ⟨by rw [HE.out.1]; rfl, HE.out.2⟩
    have i1 : (k : Int) < (N : Int) := by omega
    obtain ⟨x, hx⟩ := at_lt (l := xs) (k := k) (by rw [HH.out.2.1]; exact hlt)
    have hx256 := HH.out.1.lt hx
    obtain ⟨b, o, rfl, hbl, d0⟩ := (HH.out.1.on hb).at hx
    have C := HH.out.2.2 wr hb x hx256
    obtain ⟨X, hX⟩ : ∃ X : Int, (x : Int) = X := ⟨_, rfl⟩
    rw [hX] at d0 C
    have HK := Lib.hid (And.intro C (And.intro hb (And.intro hj hx)))
    clear C hb hj hx hX hbl hx256
    go_wp2_with fail
    refine HK.out.1.mono ?_
    rintro r w2 ⟨rfl, hb2⟩
    have b2 := HK.out.2.1.trans (hb2.mono HK.out.2.1.size)
    cases hp : p x with
    | true =>
      have he := idxL_some (p := p) HK.out.2.2.2 hp HK.out.2.2.1
      have HE := Lib.hid (And.intro he b2)
      clear hp he b2 hb2 d0
      go_wp2_with fail
      go_ret
      exact ⟨by rw [HE.out.1]; rfl, HE.out.2⟩
    | false =>
      have hend : ∀ (j : Nat) (y : Nat), j < k + 1 → xs[j]? = some y → p y = false := fun j y hj hy => by
        by_cases h : j = k
        · subst h
          have := hy.symm.trans HK.out.2.2.2
          injection this with this
          rw [this]
          exact hp
        · exact HK.out.2.2.1 j y (by omega) hy
      have HE := Lib.hid (And.intro hend b2)
      clear hp hend b2 hb2 d0
      go_wp2_with fail
      go_roundw
      case rel => exact ⟨k + 1, by go_num, by omega, HE.out.1, HE.out.2⟩
      case measure => simp [RowKit.intOf]; omega

set_option maxHeartbeats 4000000 in
set_option maxRecDepth 100000 in
theorem idx52_any (c0 : Addr) (p : Nat → Bool) (xs : List Nat) (A : Option Addr) (cap : Nat) (w : World) (h : BY w w.heap.size xs A cap)
    (K : ∀ W, Below w.heap.size w W → ∀ c : Nat, c < 256 → Calls Tryz.prog 123 #[.int .u8 (c : Int), .pointer (some c0)] W fun e w' => e = .returned (.bool (p c)) ∧ Below W.heap.size W w') :
    Calls Tryz.prog 122 #[.slice A xs.length cap, .func (Fn.func 123) #[] #[.pointer (some c0)]] w fun e w' => e = .returned (.int .i64 (idxL p xs)) ∧ Below w.heap.size w w' := by
  have hlen := h.len
  obtain ⟨N, hN⟩ : ∃ N, xs.length = N := ⟨_, rfl⟩
  rw [hN] at hlen ⊢
  have HH := Lib.hid (And.intro h (And.intro hN K))
  clear h hN K
  go_enter Tryz.func122, Tryz.ntmps122
  go_wp2_with fail
  go_loopw [5, 8] (fun _ i wr => ∃ k : Nat, i = .int .i64 (k : Int) ∧ k ≤ N ∧ (∀ (j : Nat) (y : Nat), j < k → xs[j]? = some y → p y = false) ∧ Below w.heap.size w wr) (fun _ i _ => N - (RowKit.intOf i).toNat)
  case atStart => exact ⟨0, by go_num, by omega, fun j y hj => absurd hj (by omega), Below.refl _ _⟩
  case round =>
    obtain ⟨k, rfl, hk, hj, hb⟩ := hrel
    by_cases hlt : k < N
    case neg =>
      obtain rfl : k = N := by omega
      have he := idxL_none (p := p) (l := xs) fun j x hx => hj j x (by have := (List.getElem?_eq_some_iff.1 hx).1; rw [HH.out.2.1] at this; exact this) hx
      have HE := Lib.hid (And.intro he hb)
      clear he hj hb
      go_wp2_with fail
      go_ret
      exact ⟨by rw [HE.out.1]; rfl, HE.out.2⟩
    have i1 : (k : Int) < (N : Int) := by omega
    obtain ⟨x, hx⟩ := at_lt (l := xs) (k := k) (by rw [HH.out.2.1]; exact hlt)
    have hx256 := HH.out.1.lt hx
    obtain ⟨b, o, rfl, hbl, d0⟩ := (HH.out.1.on hb).at hx
    have C := HH.out.2.2 wr hb x hx256
    obtain ⟨X, hX⟩ : ∃ X : Int, (x : Int) = X := ⟨_, rfl⟩
    rw [hX] at d0 C
    have HK := Lib.hid (And.intro C (And.intro hb (And.intro hj hx)))
    clear C hb hj hx hX hbl hx256
    go_wp2_with fail
    refine HK.out.1.mono ?_
    rintro r w2 ⟨rfl, hb2⟩
    have b2 := HK.out.2.1.trans (hb2.mono HK.out.2.1.size)
    cases hp : p x with
    | true =>
      have he := idxL_some (p := p) HK.out.2.2.2 hp HK.out.2.2.1
      have HE := Lib.hid (And.intro he b2)
      clear hp he b2 hb2 d0
      go_wp2_with fail
      go_ret
      exact ⟨by rw [HE.out.1]; rfl, HE.out.2⟩
    | false =>
      have hend : ∀ (j : Nat) (y : Nat), j < k + 1 → xs[j]? = some y → p y = false := fun j y hj hy => by
        by_cases h : j = k
        · subst h
          have := hy.symm.trans HK.out.2.2.2
          injection this with this
          rw [this]
          exact hp
        · exact HK.out.2.2.1 j y (by omega) hy
      have HE := Lib.hid (And.intro hend b2)
      clear hp hend b2 hb2 d0
      go_wp2_with fail
      go_roundw
      case rel => exact ⟨k + 1, by go_num, by omega, HE.out.1, HE.out.2⟩
      case measure => simp [RowKit.intOf]; omega

set_option maxHeartbeats 4000000 in
set_option maxRecDepth 100000 in
theorem idx53_any (c0 : Addr) (p : Nat → Bool) (xs : List Nat) (A : Option Addr) (cap : Nat) (w : World) (h : BY w w.heap.size xs A cap)
    (K : ∀ W, Below w.heap.size w W → ∀ c : Nat, c < 256 → Calls Tryz.prog 124 #[.int .u8 (c : Int), .pointer (some c0)] W fun e w' => e = .returned (.bool (p c)) ∧ Below W.heap.size W w') :
    Calls Tryz.prog 122 #[.slice A xs.length cap, .func (Fn.func 124) #[] #[.pointer (some c0)]] w fun e w' => e = .returned (.int .i64 (idxL p xs)) ∧ Below w.heap.size w w' := by
  have hlen := h.len
  obtain ⟨N, hN⟩ : ∃ N, xs.length = N := ⟨_, rfl⟩
  rw [hN] at hlen ⊢
  have HH := Lib.hid (And.intro h (And.intro hN K))
  clear h hN K
  go_enter Tryz.func122, Tryz.ntmps122
  go_wp2_with fail
  go_loopw [5, 8] (fun _ i wr => ∃ k : Nat, i = .int .i64 (k : Int) ∧ k ≤ N ∧ (∀ (j : Nat) (y : Nat), j < k → xs[j]? = some y → p y = false) ∧ Below w.heap.size w wr) (fun _ i _ => N - (RowKit.intOf i).toNat)
  case atStart => exact ⟨0, by go_num, by omega, fun j y hj => absurd hj (by omega), Below.refl _ _⟩
  case round =>
    obtain ⟨k, rfl, hk, hj, hb⟩ := hrel
    by_cases hlt : k < N
    case neg =>
      obtain rfl : k = N := by omega
      have he := idxL_none (p := p) (l := xs) fun j x hx => hj j x (by have := (List.getElem?_eq_some_iff.1 hx).1; rw [HH.out.2.1] at this; exact this) hx
      have HE := Lib.hid (And.intro he hb)
      clear he hj hb
      go_wp2_with fail
      go_ret
      exact ⟨by rw [HE.out.1]; rfl, HE.out.2⟩
    have i1 : (k : Int) < (N : Int) := by omega
    obtain ⟨x, hx⟩ := at_lt (l := xs) (k := k) (by rw [HH.out.2.1]; exact hlt)
    have hx256 := HH.out.1.lt hx
    obtain ⟨b, o, rfl, hbl, d0⟩ := (HH.out.1.on hb).at hx
    have C := HH.out.2.2 wr hb x hx256
    obtain ⟨X, hX⟩ : ∃ X : Int, (x : Int) = X := ⟨_, rfl⟩
    rw [hX] at d0 C
    have HK := Lib.hid (And.intro C (And.intro hb (And.intro hj hx)))
    clear C hb hj hx hX hbl hx256
    go_wp2_with fail
    refine HK.out.1.mono ?_
    rintro r w2 ⟨rfl, hb2⟩
    have b2 := HK.out.2.1.trans (hb2.mono HK.out.2.1.size)
    cases hp : p x with
    | true =>
      have he := idxL_some (p := p) HK.out.2.2.2 hp HK.out.2.2.1
      have HE := Lib.hid (And.intro he b2)
      clear hp he b2 hb2 d0
      go_wp2_with fail
      go_ret
      exact ⟨by rw [HE.out.1]; rfl, HE.out.2⟩
    | false =>
      have hend : ∀ (j : Nat) (y : Nat), j < k + 1 → xs[j]? = some y → p y = false := fun j y hj hy => by
        by_cases h : j = k
        · subst h
          have := hy.symm.trans HK.out.2.2.2
          injection this with this
          rw [this]
          exact hp
        · exact HK.out.2.2.1 j y (by omega) hy
      have HE := Lib.hid (And.intro hend b2)
      clear hp hend b2 hb2 d0
      go_wp2_with fail
      go_roundw
      case rel => exact ⟨k + 1, by go_num, by omega, HE.out.1, HE.out.2⟩
      case measure => simp [RowKit.intOf]; omega
end Go.Proofs.YtojinnnpfjhifaaGreatDoor.G

namespace Go.Proofs.YtojinnnpfjhifaaGreatDoor.G
open Go.RowKit Go.Shelf Go.Lib Go.Maps

set_option maxHeartbeats 4000000 in
set_option maxRecDepth 100000 in
theorem isDone_any (g b o N cap n : Nat) (k s nm ats sg cl : Value) (w : World) (hc : Cells w g 152 (PCs b o N cap n k s nm ats sg cl)) :
    Calls Tryz.prog 108 #[.pointer (some ⟨g, 0, none⟩)] w fun e w' => e = .returned (.bool ((n : Int) == (N : Int))) ∧ ∃ m, w' = w.drewN m := by
  have q0 := hc.cell 0
  have q1 := hc.cell 1
  simp [PCs] at q0 q1
  clear hc
  go_enter Tryz.func108, Tryz.ntmps108
  go_wp2_with go_quiet (fail)
  go_ret
  exact ⟨rfl, _, rfl⟩
/-- Is a byte here? -/
def tkB (xs : List Nat) (n c : Nat) : Bool := xs[n]? == some c
def tkN (xs : List Nat) (n c : Nat) : Nat := if tkB xs n c = true then n + 1 else n
set_option maxHeartbeats 4000000 in
set_option maxRecDepth 100000 in
theorem take_any (g b o cap n c : Nat) (xs : List Nat) (k s nm ats sg cl : Value) (w : World) (hc : Cells w g 152 (PCs b o xs.length cap n k s nm ats sg cl)) (hb : BY w g xs (some ⟨b, o, none⟩) cap) (hn : n ≤ xs.length) :
    Calls Tryz.prog 106 #[.pointer (some ⟨g, 0, none⟩), .int .u8 (c : Int)] w fun e w' => e = .returned (.bool (tkB xs n c)) ∧ Fz (· = g) w w' ∧ Cells w' g 152 (PCs b o xs.length cap (tkN xs n c) k s nm ats sg cl) := by
  have hlen := hb.len
  have q0 := hc.cell 0
  have q1 := hc.cell 1
  have f1 := hc.froz 1
  have hg := hc.lt
  simp [PCs] at q0 q1
  have CD := fun m => isDone_any g b o xs.length cap n k s nm ats sg cl (w.drewN m) hc
  have HD := Lib.hid CD
  by_cases hlt : n < xs.length
  case neg =>
    have e1 : tkB xs n c = false := by
      rw [tkB, List.getElem?_eq_none (by omega)]; rfl
    have e2 : tkN xs n c = n := by rw [tkN, if_neg (by rw [e1]; simp)]
    rw [e1, e2]
    obtain rfl : n = xs.length := by omega
    have d1 : ((xs.length : Int) == (xs.length : Int)) = true := by simp
    have HC := Lib.hid hc
    clear hb hc CD hn hlt e1 e2
    generalize xs.length = N at *
    rw [d1] at HD
    go_enter Tryz.func106, Tryz.ntmps106
    go_wp2_with go_quiet (first | (go_at_call 108; with_reducible refine Calls.quiet_of (HD.out _)))
    go_ret
    exact ⟨rfl, (Fz.refl _ _).drewN _, HC.out⟩
  case pos =>
    have d1 : ((n : Int) == (xs.length : Int)) = false := by rw [beq_eq_false_iff_ne]; omega
    have i1 : (n : Int) < (xs.length : Int) := by omega
    obtain ⟨x, hx⟩ := at_lt (l := xs) (k := n) hlt
    obtain ⟨b', o', e, hbl, c0⟩ := hb.at hx
    obtain ⟨rfl, rfl⟩ : b = b' ∧ o = o' := by simpa using e
    by_cases hxc : x = c
    · subst hxc
      have e1 : tkB xs n x = true := by rw [tkB, hx]; simp
      have e2 : tkN xs n x = n + 1 := by rw [tkN, if_pos e1]
      rw [e1, e2]
      have HC := Lib.hid hc
      rw [d1] at HD
      clear hb hc CD hn hlt e1 e2 d1 hx e
      generalize xs.length = N at *
      generalize (x : Int) = X at *
      go_enter Tryz.func106, Tryz.ntmps106
      go_wp2_with go_quiet (first | (go_at_call 108; with_reducible refine Calls.quiet_of (HD.out _)))
      go_ret
      refine ⟨rfl, ?_, ?_⟩
      · exact ((Fz.refl _ _).drewN _).trans (Fz.set _ _ _ _ rfl)
      · exact Cells.set (W := w.drewN _) HC.out 1 _
    · have e1 : tkB xs n c = false := by rw [tkB, hx]; simp [hxc]
      have e2 : tkN xs n c = n := by rw [tkN, if_neg (by rw [e1]; simp)]
      rw [e1, e2]
      have d2 : ((x : Int) != (c : Int)) = true := by rw [bne_iff_ne]; omega
      have HC := Lib.hid hc
      rw [d1] at HD
      clear hb hc CD hn hlt e1 e2 d1 hx e hxc
      generalize xs.length = N at *
      generalize (x : Int) = X at *
      generalize (c : Int) = C at *
      go_enter Tryz.func106, Tryz.ntmps106
      go_wp2_with go_quiet (first | (go_at_call 108; with_reducible refine Calls.quiet_of (HD.out _)))
      go_ret
      exact ⟨rfl, (Fz.refl _ _).drewN _, HC.out⟩
end Go.Proofs.YtojinnnpfjhifaaGreatDoor.G

namespace Go.Proofs.YtojinnnpfjhifaaGreatDoor.G
open Go.RowKit Go.Shelf Go.Lib Go.Maps

/-- How far a run goes. -/
def rnN (p : Nat → Bool) (xs : List Nat) (n : Nat) : Nat := (runW p (xs.drop n)).length
theorem rnN_le (p : Nat → Bool) (xs : List Nat) (n : Nat) (h : n ≤ xs.length) : n + rnN p xs n ≤ xs.length := by
  have := runW_le p (xs.drop n)
  unfold rnN
  simp at this
  omega
theorem rnN_drop (p : Nat → Bool) (xs : List Nat) (n : Nat) : xs.drop (n + rnN p xs n) = restW p (xs.drop n) := by
  rw [restW_eq_drop, List.drop_drop]; rfl
/-- What a run is, in memory. -/
theorem BY.run {w : World} {B : Nat} {xs : List Nat} {b o cap n : Nat} (h : BY w B xs (some ⟨b, o, none⟩) cap) (hn : n ≤ xs.length) (p : Nat → Bool) : BY w B (runW p (xs.drop n)) (some ⟨b, o + n, none⟩) (cap - n) := by
  rw [runW_eq_take]
  exact (h.dropL hn).take _
/-- What until answers: a run, somewhere. -/
def UntOk (w : World) (g b o cap n : Nat) (p : Nat → Bool) (xs : List Nat) (k s nm ats sg cl : Value) (e : Ending) (w' : World) : Prop :=
  ∃ A c, e = .returned (.slice A (rnN p xs n) c) ∧ BY w' g (runW p (xs.drop n)) A c ∧ Fz (· = g) w w' ∧ Cells w' g 152 (PCs b o xs.length cap (n + rnN p xs n) k s nm ats sg cl)
theorem by_empty (w : World) (B : Nat) (a : Addr) {cap : Nat} (h : cap ≤ maxLen) : BY w B [] (some a) cap := ⟨Nat.zero_le _, h, (fun e => nomatch e), (fun _x hx => nomatch hx), fun hn => absurd rfl hn⟩
theorem Fz.size' {X : Nat → Prop} {w w' : World} (h : Fz X w w') {g : Nat} (hg : g < w.heap.size) : g < w'.heap.size := Nat.lt_of_lt_of_le hg h.size

theorem idxE35_any (c0 : Addr) (p : Nat → Bool) (a : Addr) (M cap : Nat) (w : World) (hM : M = 0) (hm : cap ≤ maxLen)
    (K : ∀ W, Below w.heap.size w W → ∀ c : Nat, c < 256 → Calls Tryz.prog 92 #[.int .u8 (c : Int), .pointer (some c0)] W fun e w' => e = .returned (.bool (p c)) ∧ Below W.heap.size W w') :
    Calls Tryz.prog 122 #[.slice (some a) M cap, .func (Fn.func 92) #[] #[.pointer (some c0)]] w fun e w' => e = .returned (.int .i64 (-1)) ∧ Below w.heap.size w w' := by
  subst hM
  exact idx35_any c0 p [] (some a) cap w (by_empty _ _ _ hm) K
set_option maxHeartbeats 4000000 in
set_option maxRecDepth 100000 in
theorem until35_any (g b o cap n : Nat) (c0 : Addr) (p : Nat → Bool) (xs : List Nat) (k s nm ats sg cl : Value) (w : World) (hc : Cells w g 152 (PCs b o xs.length cap n k s nm ats sg cl)) (hb : BY w g xs (some ⟨b, o, none⟩) cap) (hn : n ≤ xs.length)
    (K : ∀ W, Below w.heap.size w W → ∀ c : Nat, c < 256 → Calls Tryz.prog 92 #[.int .u8 (c : Int), .pointer (some c0)] W fun e w' => e = .returned (.bool (p c)) ∧ Below W.heap.size W w') :
    Calls Tryz.prog 103 #[.pointer (some ⟨g, 0, none⟩), .func (Fn.func 92) #[] #[.pointer (some c0)]] w (UntOk w g b o cap n p xs k s nm ats sg cl) := by
  have hlen := hb.len
  have hcap := hb.l
  have hmx := hb.m
  have hmx0 := hb.m
  unfold maxLen at hmx
  have q0 := hc.cell 0
  have q1 := hc.cell 1
  have hg := hc.lt
  simp [PCs] at q0 q1
  by_cases hlt : n < xs.length
  case neg =>
    obtain rfl : n = xs.length := by omega
    have hr0 : rnN p xs xs.length = 0 := by unfold rnN; simp [runW]
    have hend : ∀ (a : Addr) (c : Nat) (w' : World), c ≤ maxLen → Fz (· = g) w w' → Cells w' g 152 (PCs b o xs.length cap xs.length k s nm ats sg cl) → UntOk w g b o cap xs.length p xs k s nm ats sg cl (.returned (.slice (some a) 0 c)) w' := fun a c w' h1 h2 h3 => by
      refine ⟨some a, c, by rw [hr0], ?_, h2, by rw [hr0]; exact h3⟩
      rw [List.drop_length]
      exact by_empty _ _ _ h1
    have HK := Lib.hid (And.intro hc (And.intro hend K))
    clear hend hr0 hb hlt K hc
    generalize xs.length = N at *
    have e1 : IntKind.i64.wrap (N : Int) = (N : Int) := IntWalk.i64_in _ (by omega)
    have hz : N - N = 0 := by omega
    obtain ⟨Q, hQ⟩ : ∃ Q, UntOk w g b o cap N p xs k s nm ats sg cl = Q := ⟨_, rfl⟩
    rw [hQ] at HK ⊢
    clear hQ
    go_enter Tryz.func103, Tryz.ntmps103
    go_wp2_with go_quiet (fail)
    all_goals
      refine (idxE35_any c0 p _ _ _ _ (by omega) (by first | exact Nat.zero_le _ | (unfold maxLen; omega)) (fun W hW => HK.out.2.2 W ((below_drewN (Below.refl _ _) _).trans hW))).mono ?_
      rintro r w1 ⟨rfl, hb1⟩
      have x1 : Cells w1 g 152 _ := Cells.on (W := w.drewN _) HK.out.1 hb1
      have q1 := x1.cell 1
      have f1 := x1.froz 1
      simp [PCs] at q1
      have HF := Lib.hid (And.intro x1 (((Fz.refl (· = g) w).drewN _).trans (Fz.of_below hb1)))
      clear x1 hb1
      go_wp2_with fail
      refine HK.out.2.1 _ _ _ (by first | exact Nat.zero_le _ | (unfold maxLen; omega)) (HF.out.2.trans (Fz.set _ _ _ _ rfl)) ?_
      exact HF.out.1.set 1 _
  have C := fun m => idx35_any c0 p (xs.drop n) (some ⟨b, o + n, none⟩) (cap - n) (w.drewN m) (((hb.mono (Nat.le_of_lt hg)).dropL hn).on (below_drewN (Below.refl _ _) m)) (fun W hW => K W ((below_drewN (Below.refl _ _) m).trans hW))
  have hdl : (xs.drop n).length = xs.length - n := by simp
  rw [hdl] at C
  have hrun := idxL_run p (xs.drop n)
  have hle := rnN_le p xs n hn
  have hby : ∀ w', Fz (· = g) w w' → BY w' g (runW p (xs.drop n)) (some ⟨b, o + n, none⟩) (cap - n) := fun w' hf => (hb.run hn p).fz hf (Nat.le_of_lt hg) (fun k hk e => by omega)
  have hend : ∀ (w' : World), Fz (· = g) w w' → Cells w' g 152 (PCs b o xs.length cap (n + rnN p xs n) k s nm ats sg cl) → UntOk w g b o cap n p xs k s nm ats sg cl (.returned (.slice (some ⟨b, o + n, none⟩) (rnN p xs n) (cap - n))) w' := fun w' h2 h3 => ⟨_, _, rfl, hby w' h2, h2, h3⟩
  clear hby
  obtain ⟨R, hR⟩ : ∃ R, rnN p xs n = R := ⟨_, rfl⟩
  have hR' : (runW p (xs.drop n)).length = R := hR
  rw [hR] at hle hend
  rw [hR', hdl] at hrun
  have hall : runW p (xs.drop n) = xs.drop n → R = xs.length - n := fun e => by rw [← hR', e, hdl]
  have hC := hc
  obtain ⟨I, hI⟩ : ∃ I, idxL p (xs.drop n) = I := ⟨_, rfl⟩
  rw [hI] at C hrun
  obtain ⟨Q, hQ⟩ : ∃ Q, UntOk w g b o cap n p xs k s nm ats sg cl = Q := ⟨_, rfl⟩
  rw [hQ] at hend ⊢
  clear hdl hR hR' hI hb K hc hQ
  generalize xs.length = N at *
  have HK := Lib.hid (And.intro hC (And.intro C hend))
  clear hC C hend
  have e1 : IntKind.i64.wrap ((n : Int) + (R : Int)) = (n : Int) + (R : Int) := IntWalk.i64_in _ (by omega)
  rcases hrun with ⟨rfl, h2⟩ | ⟨rfl, h2⟩
  · obtain rfl := hall h2
    have HX := Lib.hid e1
    clear hall h2 e1
    go_enter Tryz.func103, Tryz.ntmps103
    go_wp2_with go_quiet (fail)
    refine (HK.out.2.1 _).mono ?_
    rintro r w1 ⟨rfl, hb1⟩
    have x1 : Cells w1 g 152 _ := Cells.on (W := w.drewN _) HK.out.1 hb1
    have q1 := x1.cell 1
    have f1 := x1.froz 1
    simp [PCs] at q1
    have HF := Lib.hid (And.intro x1 (((Fz.refl (· = g) w).drewN _).trans (Fz.of_below hb1)))
    clear x1 hb1
    go_wp2_with fail
    refine HK.out.2.2 _ (HF.out.2.trans (Fz.set _ _ _ _ rfl)) ?_
    exact HF.out.1.set 1 _
  · have HX := Lib.hid (And.intro hall e1)
    have i0 : (R : Int) ≤ ((N - n : Nat) : Int) := by omega
    clear hall e1
    go_enter Tryz.func103, Tryz.ntmps103
    go_wp2_with go_quiet (fail)
    refine (HK.out.2.1 _).mono ?_
    rintro r w1 ⟨rfl, hb1⟩
    have x1 : Cells w1 g 152 _ := Cells.on (W := w.drewN _) HK.out.1 hb1
    have q1 := x1.cell 1
    have f1 := x1.froz 1
    simp [PCs] at q1
    have HF := Lib.hid (And.intro x1 (((Fz.refl (· = g) w).drewN _).trans (Fz.of_below hb1)))
    clear x1 hb1
    go_wp2_with fail
    refine HK.out.2.2 _ (HF.out.2.trans (Fz.set _ _ _ _ rfl)) ?_
    exact HF.out.1.set 1 _

theorem idxE52_any (c0 : Addr) (p : Nat → Bool) (a : Addr) (M cap : Nat) (w : World) (hM : M = 0) (hm : cap ≤ maxLen)
    (K : ∀ W, Below w.heap.size w W → ∀ c : Nat, c < 256 → Calls Tryz.prog 123 #[.int .u8 (c : Int), .pointer (some c0)] W fun e w' => e = .returned (.bool (p c)) ∧ Below W.heap.size W w') :
    Calls Tryz.prog 122 #[.slice (some a) M cap, .func (Fn.func 123) #[] #[.pointer (some c0)]] w fun e w' => e = .returned (.int .i64 (-1)) ∧ Below w.heap.size w w' := by
  subst hM
  exact idx52_any c0 p [] (some a) cap w (by_empty _ _ _ hm) K
set_option maxHeartbeats 4000000 in
set_option maxRecDepth 100000 in
theorem until52_any (g b o cap n : Nat) (c0 : Addr) (p : Nat → Bool) (xs : List Nat) (k s nm ats sg cl : Value) (w : World) (hc : Cells w g 152 (PCs b o xs.length cap n k s nm ats sg cl)) (hb : BY w g xs (some ⟨b, o, none⟩) cap) (hn : n ≤ xs.length)
    (K : ∀ W, Below w.heap.size w W → ∀ c : Nat, c < 256 → Calls Tryz.prog 123 #[.int .u8 (c : Int), .pointer (some c0)] W fun e w' => e = .returned (.bool (p c)) ∧ Below W.heap.size W w') :
    Calls Tryz.prog 103 #[.pointer (some ⟨g, 0, none⟩), .func (Fn.func 123) #[] #[.pointer (some c0)]] w (UntOk w g b o cap n p xs k s nm ats sg cl) := by
  have hlen := hb.len
  have hcap := hb.l
  have hmx := hb.m
  have hmx0 := hb.m
  unfold maxLen at hmx
  have q0 := hc.cell 0
  have q1 := hc.cell 1
  have hg := hc.lt
  simp [PCs] at q0 q1
  by_cases hlt : n < xs.length
  case neg =>
    obtain rfl : n = xs.length := by omega
    have hr0 : rnN p xs xs.length = 0 := by unfold rnN; simp [runW]
    have hend : ∀ (a : Addr) (c : Nat) (w' : World), c ≤ maxLen → Fz (· = g) w w' → Cells w' g 152 (PCs b o xs.length cap xs.length k s nm ats sg cl) → UntOk w g b o cap xs.length p xs k s nm ats sg cl (.returned (.slice (some a) 0 c)) w' := fun a c w' h1 h2 h3 => by
      refine ⟨some a, c, by rw [hr0], ?_, h2, by rw [hr0]; exact h3⟩
      rw [List.drop_length]
      exact by_empty _ _ _ h1
    have HK := Lib.hid (And.intro hc (And.intro hend K))
    clear hend hr0 hb hlt K hc
    generalize xs.length = N at *
    have e1 : IntKind.i64.wrap (N : Int) = (N : Int) := IntWalk.i64_in _ (by omega)
    have hz : N - N = 0 := by omega
    obtain ⟨Q, hQ⟩ : ∃ Q, UntOk w g b o cap N p xs k s nm ats sg cl = Q := ⟨_, rfl⟩
    rw [hQ] at HK ⊢
    clear hQ
    go_enter Tryz.func103, Tryz.ntmps103
    go_wp2_with go_quiet (fail)
    all_goals
      refine (idxE52_any c0 p _ _ _ _ (by omega) (by first | exact Nat.zero_le _ | (unfold maxLen; omega)) (fun W hW => HK.out.2.2 W ((below_drewN (Below.refl _ _) _).trans hW))).mono ?_
      rintro r w1 ⟨rfl, hb1⟩
      have x1 : Cells w1 g 152 _ := Cells.on (W := w.drewN _) HK.out.1 hb1
      have q1 := x1.cell 1
      have f1 := x1.froz 1
      simp [PCs] at q1
      have HF := Lib.hid (And.intro x1 (((Fz.refl (· = g) w).drewN _).trans (Fz.of_below hb1)))
      clear x1 hb1
      go_wp2_with fail
      refine HK.out.2.1 _ _ _ (by first | exact Nat.zero_le _ | (unfold maxLen; omega)) (HF.out.2.trans (Fz.set _ _ _ _ rfl)) ?_
      exact HF.out.1.set 1 _
  have C := fun m => idx52_any c0 p (xs.drop n) (some ⟨b, o + n, none⟩) (cap - n) (w.drewN m) (((hb.mono (Nat.le_of_lt hg)).dropL hn).on (below_drewN (Below.refl _ _) m)) (fun W hW => K W ((below_drewN (Below.refl _ _) m).trans hW))
  have hdl : (xs.drop n).length = xs.length - n := by simp
  rw [hdl] at C
  have hrun := idxL_run p (xs.drop n)
  have hle := rnN_le p xs n hn
  have hby : ∀ w', Fz (· = g) w w' → BY w' g (runW p (xs.drop n)) (some ⟨b, o + n, none⟩) (cap - n) := fun w' hf => (hb.run hn p).fz hf (Nat.le_of_lt hg) (fun k hk e => by omega)
  have hend : ∀ (w' : World), Fz (· = g) w w' → Cells w' g 152 (PCs b o xs.length cap (n + rnN p xs n) k s nm ats sg cl) → UntOk w g b o cap n p xs k s nm ats sg cl (.returned (.slice (some ⟨b, o + n, none⟩) (rnN p xs n) (cap - n))) w' := fun w' h2 h3 => ⟨_, _, rfl, hby w' h2, h2, h3⟩
  clear hby
  obtain ⟨R, hR⟩ : ∃ R, rnN p xs n = R := ⟨_, rfl⟩
  have hR' : (runW p (xs.drop n)).length = R := hR
  rw [hR] at hle hend
  rw [hR', hdl] at hrun
  have hall : runW p (xs.drop n) = xs.drop n → R = xs.length - n := fun e => by rw [← hR', e, hdl]
  have hC := hc
  obtain ⟨I, hI⟩ : ∃ I, idxL p (xs.drop n) = I := ⟨_, rfl⟩
  rw [hI] at C hrun
  obtain ⟨Q, hQ⟩ : ∃ Q, UntOk w g b o cap n p xs k s nm ats sg cl = Q := ⟨_, rfl⟩
  rw [hQ] at hend ⊢
  clear hdl hR hR' hI hb K hc hQ
  generalize xs.length = N at *
  have HK := Lib.hid (And.intro hC (And.intro C hend))
  clear hC C hend
  have e1 : IntKind.i64.wrap ((n : Int) + (R : Int)) = (n : Int) + (R : Int) := IntWalk.i64_in _ (by omega)
  rcases hrun with ⟨rfl, h2⟩ | ⟨rfl, h2⟩
  · obtain rfl := hall h2
    have HX := Lib.hid e1
    clear hall h2 e1
    go_enter Tryz.func103, Tryz.ntmps103
    go_wp2_with go_quiet (fail)
    refine (HK.out.2.1 _).mono ?_
    rintro r w1 ⟨rfl, hb1⟩
    have x1 : Cells w1 g 152 _ := Cells.on (W := w.drewN _) HK.out.1 hb1
    have q1 := x1.cell 1
    have f1 := x1.froz 1
    simp [PCs] at q1
    have HF := Lib.hid (And.intro x1 (((Fz.refl (· = g) w).drewN _).trans (Fz.of_below hb1)))
    clear x1 hb1
    go_wp2_with fail
    refine HK.out.2.2 _ (HF.out.2.trans (Fz.set _ _ _ _ rfl)) ?_
    exact HF.out.1.set 1 _
  · have HX := Lib.hid (And.intro hall e1)
    have i0 : (R : Int) ≤ ((N - n : Nat) : Int) := by omega
    clear hall e1
    go_enter Tryz.func103, Tryz.ntmps103
    go_wp2_with go_quiet (fail)
    refine (HK.out.2.1 _).mono ?_
    rintro r w1 ⟨rfl, hb1⟩
    have x1 : Cells w1 g 152 _ := Cells.on (W := w.drewN _) HK.out.1 hb1
    have q1 := x1.cell 1
    have f1 := x1.froz 1
    simp [PCs] at q1
    have HF := Lib.hid (And.intro x1 (((Fz.refl (· = g) w).drewN _).trans (Fz.of_below hb1)))
    clear x1 hb1
    go_wp2_with fail
    refine HK.out.2.2 _ (HF.out.2.trans (Fz.set _ _ _ _ rfl)) ?_
    exact HF.out.1.set 1 _

theorem idxE53_any (c0 : Addr) (p : Nat → Bool) (a : Addr) (M cap : Nat) (w : World) (hM : M = 0) (hm : cap ≤ maxLen)
    (K : ∀ W, Below w.heap.size w W → ∀ c : Nat, c < 256 → Calls Tryz.prog 124 #[.int .u8 (c : Int), .pointer (some c0)] W fun e w' => e = .returned (.bool (p c)) ∧ Below W.heap.size W w') :
    Calls Tryz.prog 122 #[.slice (some a) M cap, .func (Fn.func 124) #[] #[.pointer (some c0)]] w fun e w' => e = .returned (.int .i64 (-1)) ∧ Below w.heap.size w w' := by
  subst hM
  exact idx53_any c0 p [] (some a) cap w (by_empty _ _ _ hm) K
set_option maxHeartbeats 4000000 in
set_option maxRecDepth 100000 in
theorem until53_any (g b o cap n : Nat) (c0 : Addr) (p : Nat → Bool) (xs : List Nat) (k s nm ats sg cl : Value) (w : World) (hc : Cells w g 152 (PCs b o xs.length cap n k s nm ats sg cl)) (hb : BY w g xs (some ⟨b, o, none⟩) cap) (hn : n ≤ xs.length)
    (K : ∀ W, Below w.heap.size w W → ∀ c : Nat, c < 256 → Calls Tryz.prog 124 #[.int .u8 (c : Int), .pointer (some c0)] W fun e w' => e = .returned (.bool (p c)) ∧ Below W.heap.size W w') :
    Calls Tryz.prog 103 #[.pointer (some ⟨g, 0, none⟩), .func (Fn.func 124) #[] #[.pointer (some c0)]] w (UntOk w g b o cap n p xs k s nm ats sg cl) := by
  have hlen := hb.len
  have hcap := hb.l
  have hmx := hb.m
  have hmx0 := hb.m
  unfold maxLen at hmx
  have q0 := hc.cell 0
  have q1 := hc.cell 1
  have hg := hc.lt
  simp [PCs] at q0 q1
  by_cases hlt : n < xs.length
  case neg =>
    obtain rfl : n = xs.length := by omega
    have hr0 : rnN p xs xs.length = 0 := by unfold rnN; simp [runW]
    have hend : ∀ (a : Addr) (c : Nat) (w' : World), c ≤ maxLen → Fz (· = g) w w' → Cells w' g 152 (PCs b o xs.length cap xs.length k s nm ats sg cl) → UntOk w g b o cap xs.length p xs k s nm ats sg cl (.returned (.slice (some a) 0 c)) w' := fun a c w' h1 h2 h3 => by
      refine ⟨some a, c, by rw [hr0], ?_, h2, by rw [hr0]; exact h3⟩
      rw [List.drop_length]
      exact by_empty _ _ _ h1
    have HK := Lib.hid (And.intro hc (And.intro hend K))
    clear hend hr0 hb hlt K hc
    generalize xs.length = N at *
    have e1 : IntKind.i64.wrap (N : Int) = (N : Int) := IntWalk.i64_in _ (by omega)
    have hz : N - N = 0 := by omega
    obtain ⟨Q, hQ⟩ : ∃ Q, UntOk w g b o cap N p xs k s nm ats sg cl = Q := ⟨_, rfl⟩
    rw [hQ] at HK ⊢
    clear hQ
    go_enter Tryz.func103, Tryz.ntmps103
    go_wp2_with go_quiet (fail)
    all_goals
      refine (idxE53_any c0 p _ _ _ _ (by omega) (by first | exact Nat.zero_le _ | (unfold maxLen; omega)) (fun W hW => HK.out.2.2 W ((below_drewN (Below.refl _ _) _).trans hW))).mono ?_
      rintro r w1 ⟨rfl, hb1⟩
      have x1 : Cells w1 g 152 _ := Cells.on (W := w.drewN _) HK.out.1 hb1
      have q1 := x1.cell 1
      have f1 := x1.froz 1
      simp [PCs] at q1
      have HF := Lib.hid (And.intro x1 (((Fz.refl (· = g) w).drewN _).trans (Fz.of_below hb1)))
      clear x1 hb1
      go_wp2_with fail
      refine HK.out.2.1 _ _ _ (by first | exact Nat.zero_le _ | (unfold maxLen; omega)) (HF.out.2.trans (Fz.set _ _ _ _ rfl)) ?_
      exact HF.out.1.set 1 _
  have C := fun m => idx53_any c0 p (xs.drop n) (some ⟨b, o + n, none⟩) (cap - n) (w.drewN m) (((hb.mono (Nat.le_of_lt hg)).dropL hn).on (below_drewN (Below.refl _ _) m)) (fun W hW => K W ((below_drewN (Below.refl _ _) m).trans hW))
  have hdl : (xs.drop n).length = xs.length - n := by simp
  rw [hdl] at C
  have hrun := idxL_run p (xs.drop n)
  have hle := rnN_le p xs n hn
  have hby : ∀ w', Fz (· = g) w w' → BY w' g (runW p (xs.drop n)) (some ⟨b, o + n, none⟩) (cap - n) := fun w' hf => (hb.run hn p).fz hf (Nat.le_of_lt hg) (fun k hk e => by omega)
  have hend : ∀ (w' : World), Fz (· = g) w w' → Cells w' g 152 (PCs b o xs.length cap (n + rnN p xs n) k s nm ats sg cl) → UntOk w g b o cap n p xs k s nm ats sg cl (.returned (.slice (some ⟨b, o + n, none⟩) (rnN p xs n) (cap - n))) w' := fun w' h2 h3 => ⟨_, _, rfl, hby w' h2, h2, h3⟩
  clear hby
  obtain ⟨R, hR⟩ : ∃ R, rnN p xs n = R := ⟨_, rfl⟩
  have hR' : (runW p (xs.drop n)).length = R := hR
  rw [hR] at hle hend
  rw [hR', hdl] at hrun
  have hall : runW p (xs.drop n) = xs.drop n → R = xs.length - n := fun e => by rw [← hR', e, hdl]
  have hC := hc
  obtain ⟨I, hI⟩ : ∃ I, idxL p (xs.drop n) = I := ⟨_, rfl⟩
  rw [hI] at C hrun
  obtain ⟨Q, hQ⟩ : ∃ Q, UntOk w g b o cap n p xs k s nm ats sg cl = Q := ⟨_, rfl⟩
  rw [hQ] at hend ⊢
  clear hdl hR hR' hI hb K hc hQ
  generalize xs.length = N at *
  have HK := Lib.hid (And.intro hC (And.intro C hend))
  clear hC C hend
  have e1 : IntKind.i64.wrap ((n : Int) + (R : Int)) = (n : Int) + (R : Int) := IntWalk.i64_in _ (by omega)
  rcases hrun with ⟨rfl, h2⟩ | ⟨rfl, h2⟩
  · obtain rfl := hall h2
    have HX := Lib.hid e1
    clear hall h2 e1
    go_enter Tryz.func103, Tryz.ntmps103
    go_wp2_with go_quiet (fail)
    refine (HK.out.2.1 _).mono ?_
    rintro r w1 ⟨rfl, hb1⟩
    have x1 : Cells w1 g 152 _ := Cells.on (W := w.drewN _) HK.out.1 hb1
    have q1 := x1.cell 1
    have f1 := x1.froz 1
    simp [PCs] at q1
    have HF := Lib.hid (And.intro x1 (((Fz.refl (· = g) w).drewN _).trans (Fz.of_below hb1)))
    clear x1 hb1
    go_wp2_with fail
    refine HK.out.2.2 _ (HF.out.2.trans (Fz.set _ _ _ _ rfl)) ?_
    exact HF.out.1.set 1 _
  · have HX := Lib.hid (And.intro hall e1)
    have i0 : (R : Int) ≤ ((N - n : Nat) : Int) := by omega
    clear hall e1
    go_enter Tryz.func103, Tryz.ntmps103
    go_wp2_with go_quiet (fail)
    refine (HK.out.2.1 _).mono ?_
    rintro r w1 ⟨rfl, hb1⟩
    have x1 : Cells w1 g 152 _ := Cells.on (W := w.drewN _) HK.out.1 hb1
    have q1 := x1.cell 1
    have f1 := x1.froz 1
    simp [PCs] at q1
    have HF := Lib.hid (And.intro x1 (((Fz.refl (· = g) w).drewN _).trans (Fz.of_below hb1)))
    clear x1 hb1
    go_wp2_with fail
    refine HK.out.2.2 _ (HF.out.2.trans (Fz.set _ _ _ _ rfl)) ?_
    exact HF.out.1.set 1 _
end Go.Proofs.YtojinnnpfjhifaaGreatDoor.G

namespace Go.Proofs.YtojinnnpfjhifaaGreatDoor.G
open Go.RowKit Go.Shelf Go.Lib Go.Maps

def strV (l : List Nat) : Value := .string ⟨(u8s l).toArray⟩
theorem ofNat_inj {a b : Nat} (ha : a < 256) (hb : b < 256) (h : UInt8.ofNat a = UInt8.ofNat b) : a = b := by
  have := congrArg UInt8.toNat h
  simp [Nat.mod_eq_of_lt ha, Nat.mod_eq_of_lt hb] at this
  exact this
theorem indexByte_mem (c : Nat) (hc : c < 256) : ∀ (l : List Nat), (∀ x ∈ l, x < 256) → decide (0 ≤ Lib.indexByte (u8s l) (UInt8.ofNat c)) = l.contains c ∧ -1 ≤ Lib.indexByte (u8s l) (UInt8.ofNat c)
  | [], _ => ⟨rfl, Int.le_refl (-1)⟩
  | x :: l, h => by
    have ih := indexByte_mem c hc l (fun y hy => h y (by simp [hy]))
    have hx := h x (by simp)
    show decide (0 ≤ Lib.indexByte (UInt8.ofNat x :: u8s l) (UInt8.ofNat c)) = _ ∧ -1 ≤ Lib.indexByte (UInt8.ofNat x :: u8s l) (UInt8.ofNat c)
    rw [Lib.indexByte]
    by_cases e : x = c
    · subst e
      simp
    · have e1 : (UInt8.ofNat x == UInt8.ofNat c) = false := by
        rw [beq_eq_false_iff_ne]
        exact fun h => e (ofNat_inj hx hc h)
      have e2 : (x :: l).contains c = l.contains c := by
        rw [List.contains_cons]
        simp [show ¬ c = x from fun h => e h.symm]
      rw [e1, e2, ← ih.1]
      simp only [Bool.false_eq_true, if_false]
      have := ih.2
      by_cases e3 : Lib.indexByte (u8s l) (UInt8.ofNat c) = -1
      · simp [e3]
      · have e4 : (Lib.indexByte (u8s l) (UInt8.ofNat c) == -1) = false := by rw [beq_eq_false_iff_ne]; exact e3
        rw [e4]
        simp only [Bool.false_eq_true, if_false]
        refine ⟨?_, by omega⟩
        congr 1
        apply propext
        constructor <;> intro h <;> omega
theorem toUInt8_nat (c : Nat) : ((c : Int).toNat).toUInt8 = UInt8.ofNat c := by simp
set_option maxHeartbeats 4000000 in
set_option maxRecDepth 100000 in
theorem one_any (l : List Nat) (hl : ∀ x ∈ l, x < 256) (gs : Nat) (w : World) (hc : Cells w gs 9 #[strV l]) (c : Nat) (h256 : c < 256) :
    Calls Tryz.prog 92 #[.int .u8 (c : Int), .pointer (some ⟨gs, 0, none⟩)] w fun e w' => e = .returned (.bool (l.contains c)) ∧ Below w.heap.size w w' := by
  have q0 := hc.cell 0
  simp [strV] at q0
  have C := Tryz.strings_IndexByte ⟨(u8s l).toArray⟩ (c : Int) w
  have hi := (indexByte_mem c h256 l hl).1
  rw [toUInt8_nat] at C
  simp only at C
  generalize Lib.indexByte (u8s l) (UInt8.ofNat c) = I at *
  rw [← hi]
  have HC := Lib.hid C
  clear C hi hc h256 hl
  go_enter Tryz.func92, Tryz.ntmps92
  go_wp2_with fail
  refine HC.out.mono ?_
  rintro r w1 ⟨rfl, e⟩
  obtain rfl := e.symm
  go_wp2_with fail
  go_ret
  exact ⟨rfl, Below.refl _ _⟩
set_option maxHeartbeats 4000000 in
set_option maxRecDepth 100000 in
theorem none_any (l : List Nat) (hl : ∀ x ∈ l, x < 256) (gs : Nat) (w : World) (hc : Cells w gs 9 #[strV l]) (c : Nat) (h256 : c < 256) :
    Calls Tryz.prog 123 #[.int .u8 (c : Int), .pointer (some ⟨gs, 0, none⟩)] w fun e w' => e = .returned (.bool (!l.contains c)) ∧ Below w.heap.size w w' := by
  have q0 := hc.cell 0
  simp [strV] at q0
  have C := Tryz.strings_IndexByte ⟨(u8s l).toArray⟩ (c : Int) w
  have hi := (indexByte_mem c h256 l hl).1
  rw [toUInt8_nat] at C
  simp only at C
  generalize Lib.indexByte (u8s l) (UInt8.ofNat c) = I at *
  rw [← hi]
  have e0 : (!decide (0 ≤ I)) = decide (I < 0) := by by_cases h : 0 ≤ I <;> simp [h] <;> omega
  rw [e0]
  have HC := Lib.hid C
  clear C hi hc h256 hl e0
  go_enter Tryz.func123, Tryz.ntmps123
  go_wp2_with fail
  refine HC.out.mono ?_
  rintro r w1 ⟨rfl, e⟩
  obtain rfl := e.symm
  go_wp2_with fail
  go_ret
  exact ⟨rfl, Below.refl _ _⟩
set_option maxHeartbeats 4000000 in
set_option maxRecDepth 100000 in
theorem quo_any (q : Nat) (gs : Nat) (w : World) (hc : Cells w gs 5 #[.int .u8 (q : Int)]) (c : Nat) :
    Calls Tryz.prog 124 #[.int .u8 (c : Int), .pointer (some ⟨gs, 0, none⟩)] w fun e w' => e = .returned (.bool (eQ q c)) ∧ Below w.heap.size w w' := by
  have q0 := hc.cell 0
  simp at q0
  have e0 : eQ q c = ((c : Int) == (q : Int)) := by
    rw [eQ, Bool.eq_iff_iff]; simp only [beq_iff_eq]; omega
  rw [e0]
  clear hc e0
  go_enter Tryz.func124, Tryz.ntmps124
  go_wp2_with fail
  go_ret
  exact ⟨rfl, Below.refl _ _⟩
set_option maxHeartbeats 4000000 in
set_option maxRecDepth 100000 in
theorem mk_one (l : List Nat) (w : World) : Calls Tryz.prog 79 #[strV l] w fun e w' => e = .returned (.func (Fn.func 92) #[] #[.pointer (some ⟨w.heap.size, 0, none⟩)]) ∧ w' = w.alloc (.cells #[strV l] 9) := by
  unfold strV
  go_enter Tryz.func79, Tryz.ntmps79
  go_wp2_with fail
  go_ret
  exact ⟨rfl, rfl⟩
set_option maxHeartbeats 4000000 in
set_option maxRecDepth 100000 in
theorem mk_none (l : List Nat) (w : World) : Calls Tryz.prog 105 #[strV l] w fun e w' => e = .returned (.func (Fn.func 123) #[] #[.pointer (some ⟨w.heap.size, 0, none⟩)]) ∧ w' = w.alloc (.cells #[strV l] 9) := by
  unfold strV
  go_enter Tryz.func105, Tryz.ntmps105
  go_wp2_with fail
  go_ret
  exact ⟨rfl, rfl⟩
/-- What ends the runs. -/
theorem con_name : ∀ c, ([9, 10, 12, 13, 32, 47, 62] : List Nat).contains c = eName c := fun c => by
  simp [eName, blkB, Bool.or_assoc]; rfl
theorem con_attr : ∀ c, ([9, 10, 12, 13, 32, 47, 62, 61] : List Nat).contains c = eAttr c := fun c => by
  simp [eAttr, blkB, Bool.or_assoc]; rfl
theorem con_val : ∀ c, ([9, 10, 12, 13, 32, 62] : List Nat).contains c = eVal c := fun c => by
  simp [eVal, blkB, Bool.or_assoc]; rfl
theorem con_sep : ∀ c, (!([9, 10, 12, 13, 32, 47] : List Nat).contains c) = eSep c := fun c => by
  simp [eSep, blkB, Bool.or_assoc]; rfl
theorem con_blk : ∀ c, (!([9, 10, 12, 13, 32] : List Nat).contains c) = eBlk c := fun c => by
  simp [eBlk, blkB, Bool.or_assoc]; rfl
set_option maxHeartbeats 4000000 in
set_option maxRecDepth 100000 in
theorem isLetter_any (c : Nat) (w : World) : Calls Tryz.prog 75 #[.int .u8 (c : Int)] w fun e w' => e = .returned (.bool (ltrB c)) ∧ w' = w := by
  have e0 : ltrB c = ((decide (65 ≤ (c : Int)) && decide ((c : Int) ≤ 90)) || (decide (97 ≤ (c : Int)) && decide ((c : Int) ≤ 122))) := by
    unfold ltrB
    rw [Bool.eq_iff_iff]
    simp
    omega
  rw [e0]
  generalize (c : Int) = X
  by_cases h1 : 65 ≤ X
  · have d1 : decide (65 ≤ X) = true := by simpa using h1
    by_cases h2 : X ≤ 90
    · have d2 : decide (X ≤ 90) = true := by simpa using h2
      go_enter Tryz.func75, Tryz.ntmps75
      go_wp2_with fail
      go_ret
      exact ⟨by simp [d1, d2], rfl⟩
    · have d2 : decide (X ≤ 90) = false := by simpa using h2
      by_cases h3 : 97 ≤ X
      · have d3 : decide (97 ≤ X) = true := by simpa using h3
        go_enter Tryz.func75, Tryz.ntmps75
        go_wp2_with fail
        go_ret
        exact ⟨by simp, rfl⟩
      · have d3 : decide (97 ≤ X) = false := by simpa using h3
        go_enter Tryz.func75, Tryz.ntmps75
        go_wp2_with fail
        go_ret
        exact ⟨by simp, rfl⟩
  · have d1 : decide (65 ≤ X) = false := by simpa using h1
    have d3 : decide (97 ≤ X) = false := by simp; omega
    go_enter Tryz.func75, Tryz.ntmps75
    go_wp2_with fail
    go_ret
    exact ⟨by simp, rfl⟩
end Go.Proofs.YtojinnnpfjhifaaGreatDoor.G

namespace Go.Proofs.YtojinnnpfjhifaaGreatDoor.G
open Go.RowKit Go.Shelf Go.Lib Go.Maps

/-- string(b) of bytes that lie somewhere. -/
theorem conv_by {w : World} {B : Nat} {l : List Nat} {A : Option Addr} {cap : Nat} (h : BY w B l A cap) : (convert 22 9 (.slice A l.length cap)).run Tryz.prog w = .ok (.string ⟨(u8s l).toArray⟩) w := by
  cases l with
  | nil =>
    exact run_convert_bytes_zero (P := Tryz.prog) w 22 5 Tryz.underlying22 Tryz.underlying5 A cap 9 Tryz.underlying9
  | cons c r =>
    obtain ⟨b, o, rfl, _, hc⟩ := h.r (by simp)
    have := run_convert_bytes_back (P := Tryz.prog) w 22 9 5 ⟨b, o, none⟩ cap (u8s (c :: r)) Tryz.underlying22 Tryz.underlying5 Tryz.underlying9 (fun j hj => by
      rw [u8s_len] at hj
      obtain ⟨x, hx⟩ := at_lt hj
      have h1 := hc j x hx
      have h2 := h.lt hx
      have ea : (Addr.mk b o none).add j = ⟨b, o + j, none⟩ := by
        unfold Addr.add
        by_cases h0 : j = 0 <;> simp [h0]
      rw [ea, h1]
      have hu : (u8s (c :: r))[j]? = some (UInt8.ofNat x) := by
        unfold u8s
        rw [List.getElem?_map, hx]
        rfl
      simp [List.getElem?_eq_some_iff] at hu
      obtain ⟨h3, h4⟩ := hu
      simp [h4, Nat.mod_eq_of_lt h2])
    rw [u8s_len] at this
    exact this
end Go.Proofs.YtojinnnpfjhifaaGreatDoor.G

