/-
  
  Escapes of terminals as lists of bytes: what is read, the code's way and the definition's; numbers; what is stripped. No program.
  Bytes as they lie in memory.
  Own rows of bytes, numbers, strings: one more; what they are as slices.
  Contracts: virguleref01.Right, Put.
  The names of references. Contract: entity.rows.
  Contracts: slices.IndexFunc over the names, entity.find, for each of the three functions that are asked.
  string(b) and []byte(s).
  Contracts: the functions that are asked of a row (by name, by scalar), entity.Find, entity.ofName.
  strconv.ParseInt is laid with the rest of the shelf.
-/
import Derived.WalkKit
import Derived.BigQuiet
import Derived.Deep.QuietTactic
import Derived.Outline
import Derived.Lib.Hide
import Derived.Below
import Derived.Lib.DecodeNEq
import Derived.Shelf.SlicesE.Clone
import Derived.Laws.IdiomStrings
import Derived.Laws.OwnMore
import Derived.OwnWalk
import Derived.RangeFuncRecord
import Derived.RangeFuncBox
import Derived.Deep.AppendLies
import Derived.Test.YtojinnnpfjhifaaGreatDoorProg
import Derived.Lib.QuietBelow
import Derived.StillTailTactics
import Derived.Maps.OwnOps
import Derived.Maps.OwnSet
import Derived.Maps.Views
import Derived.BigRegion
import Derived.Deep.RegionLaw
import Derived.Laws.AppendOwnNone
import Derived.Deep.Slices
import Derived.Lib.Split
import Derived.Lib.IndexMore
import Derived.Lib.RuneBytes
import Derived.Lib.Small
import Derived.Great.Walk
import Derived.Laws.Rows
import Derived.Laws.Tables
import Derived.Shelf.Bytes.SlSmallAll
import Derived.ArgAppend
import Derived.Lib.UnsafeStr
import Derived.Test.YtojinnnpfjhifaaGreatDoorXqb
namespace Go.Proofs.YtojinnnpfjhifaaGreatDoor
open Go.RowKit Go.Shelf Go.Lib Go.Maps
set_option maxHeartbeats 1000000 in
set_option maxRecDepth 100000 in
theorem below_drewN {B : Nat} {a w : World} (h : Below B a w) (n : Nat) : Below B a (w.drewN n) := ⟨h.os, h.tape, h.output, h.size, h.block⟩
theorem ret_bool {a b : Bool} (h : a = b) : Ending.returned (.bool a) = .returned (.bool b) := by rw [h]
theorem add0 (g j : Nat) : (Addr.mk g 0 none).add j = ⟨g, j, none⟩ := by
  unfold Addr.add
  by_cases h : j = 0 <;> simp [h]
/-- A block that is known whole. -/
def Cells (W : World) (g t : Nat) (cs : Array Value) : Prop := W.heap[g]? = some (.cells cs t (0, 0))
theorem Cells.lt {W : World} {g t : Nat} {cs : Array Value} (h : Cells W g t cs) : g < W.heap.size := (Array.getElem?_eq_some_iff.1 h).1
theorem Cells.cell {W : World} {g t : Nat} {cs : Array Value} (h : Cells W g t cs) (i : Nat) : W.cell? ⟨g, i, none⟩ = cs[i]? := by
  simp [World.cell?, show W.heap[g]? = _ from h]
theorem own_block_lt {w : World} {base e size n : Nat} {v : Value} {xs : List Value} (h : w.ownsRow base e size v n xs) : ∀ k, v.ownBlock = some k → base ≤ k ∧ k < w.heap.size := by
  rcases h.2 with ⟨rfl, _⟩ | ⟨g, cap, cur, rfl, hb, hh, _⟩
  · intro k e; simp [Value.ownBlock] at e
  · intro k e
    obtain rfl : g = k := by simpa [Value.ownBlock] using e
    exact ⟨hb, (Array.getElem?_eq_some_iff.1 hh).1⟩

theorem grown_of_below {A B : World} (h : Below A.heap.size A B) : A.grownBy B none := ⟨h.os, h.tape, h.output, h.size, fun k hk _ => h.block k hk⟩
theorem ownsRow_below {w w' : World} {base e size n : Nat} {v : Value} {xs : List Value} (h : w.ownsRow base e size v n xs) (hb : Below w.heap.size w w') : w'.ownsRow base e size v n xs :=
  h.kept (grown_of_below hb) (by cases v.ownBlock <;> simp)

def i64 (n : Int) : Prop := -9223372036854775808 ≤ n ∧ n ≤ 9223372036854775807

theorem below_new (w : World) (o : Obj) : Below w.heap.size w (w.alloc o) := (Below.refl _ _).alloc (Nat.le_refl _) o
theorem cells_new (w : World) (cs : Array Value) (t : Nat) : Cells (w.alloc (.cells cs t)) w.heap.size t cs := World.alloc_heap_new w _
theorem Cells.froz {W : World} {g t : Nat} {cs : Array Value} (h : Cells W g t cs) (i : Nat) : W.frozen? ⟨g, i, none⟩ = false := by
  simp [World.frozen?, show W.heap[g]? = _ from h]
theorem Cells.set {W : World} {g t : Nat} {cs : Array Value} (h : Cells W g t cs) (i : Nat) (v : Value) : Cells (W.setCell ⟨g, i, none⟩ v) g t (cs.setIfInBounds i v) := by
  unfold Cells World.setCell
  simp only [Array.getElem?_modify, if_true]
  rw [show W.heap[g]? = _ from h]
  rfl
theorem grown_setc (w : World) (b j : Nat) (v : Value) : w.grownBy (w.setCell ⟨b, j, none⟩ v) (some b) := ⟨rfl, rfl, rfl, by simp [World.setCell], fun k _ hk => Below.heap_setCell _ _ _ _ (fun e => hk (by rw [e]))⟩
theorem nat64 {p : Nat} (h : p < 9223372036854775808) : i64 (p : Int) := by unfold i64; omega
theorem cell_lt {w : World} {a : Addr} {v : Value} (h : w.cell? a = some v) : a.block < w.heap.size := by
  unfold World.cell? at h
  cases hb : w.heap[a.block]? with
  | none => simp [hb] at h
  | some x => exact (Array.getElem?_eq_some_iff.1 hb).1
/-- A slice of numbers. -/
structure IS (w : World) (B : Nat) (xs : List Int) (A : Option Addr) (cap : Nat) : Prop where
  l : xs.length ≤ cap
  m : cap ≤ maxLen
  i : ∀ x ∈ xs, i64 x
  r : xs ≠ [] → ∃ b o, A = some ⟨b, o, none⟩ ∧ b < B ∧ ∀ i x, xs[i]? = some x → w.cell? ⟨b, o + i, none⟩ = some (.int .i64 x)
theorem IS.below {w w' : World} {B : Nat} {xs : List Int} {A : Option Addr} {cap : Nat} (h : IS w B xs A cap) (hb : Below B w w') : IS w' B xs A cap :=
  ⟨h.l, h.m, h.i, fun hne => by
    obtain ⟨b, o, rfl, hl, hr⟩ := h.r hne
    exact ⟨b, o, rfl, hl, fun i x hx => (hb.cell (p := ⟨b, _, none⟩) hl).trans (hr i x hx)⟩⟩
theorem IS.mono {w : World} {B B' : Nat} {xs : List Int} {A : Option Addr} {cap : Nat} (h : IS w B xs A cap) (hB : B ≤ B') : IS w B' xs A cap :=
  ⟨h.l, h.m, h.i, fun hne => by
    obtain ⟨b, o, rfl, hl, hr⟩ := h.r hne
    exact ⟨b, o, rfl, by omega, hr⟩⟩
theorem IS.on {w w' : World} {xs : List Int} {A : Option Addr} {cap : Nat} (h : IS w w.heap.size xs A cap) (hb : Below w.heap.size w w') : IS w' w'.heap.size xs A cap := (h.below hb).mono hb.size
theorem info3 : (Tryz.prog.info? 3).map (fun i => (i.zero, i.size, i.bytes)) = some (some (.int .i64 0), 1, 8) := by kernel_rfl
def intsC (l : List Int) : List Value := l.map fun x => Value.int .i64 x
theorem intsC_len (l : List Int) : (intsC l).length = l.length := by simp [intsC]
theorem intsC_append (l m : List Int) : intsC (l ++ m) = intsC l ++ intsC m := by simp [intsC]
def OwnI (w : World) (base : Nat) (l : List Int) (v : Value) : Prop := w.ownsRow base 3 1 v l.length (intsC l)
theorem wpList_wanted {P : Program} {ops : Array Oper} {rest : List Oper} {o : Oper} {a : Act} {w : World} {Q : Exit → Act → World → Prop} (hw : Region.wanted o (yielded ops a.tmps) = true)
    (h : ∀ K : Act → World → Prop, (∀ a w, wpList P ops Q rest a w → K a w) → o.wp P a w K Q) : wpList P ops Q (o :: rest) a w :=
  wpList_step fun K hK => by rw [if_pos hw]; exact h K hK
theorem OwnI.is {w : World} {base : Nat} {l : List Int} {v : Value} (h : OwnI w base l v) (hl : ∀ x ∈ l, i64 x) : ∃ A cap, v = .slice A l.length cap ∧ IS w w.heap.size l A cap ∧ (A = none → cap = 0) := by
  rcases h.2 with ⟨h1, h2⟩ | ⟨g, cap, cur, h1, h2, h3, h4, h5, h6, h7⟩
  · have hn : l = [] := List.eq_nil_of_length_eq_zero h2
    subst hn
    exact ⟨none, 0, by rw [h1]; rfl, ⟨Nat.le_refl _, by unfold maxLen; omega, (fun x hx => absurd hx (by simp)), (fun hn => absurd rfl hn)⟩, fun _ => rfl⟩
  · refine ⟨_, cap, h1, ⟨h4, h5, hl, fun _ => ⟨g, 0, rfl, (Array.getElem?_eq_some_iff.1 h3).1, fun i x hx => ?_⟩⟩, fun e => by cases e⟩
    have hc := World.ownsRow.cells h (g := g) (by rw [h1]; rfl) i (.int .i64 x) (by simp [intsC, hx])
    rw [add0] at hc
    rw [Nat.zero_add]; exact hc
/-- A slice literal is the call's own. -/
theorem ownI_lit (w : World) (l : List Int) (hl : l.length ≤ 100) : OwnI (w.alloc (.cells (intsC l).toArray 3)) w.heap.size l (.slice (some ⟨w.heap.size, 0, none⟩) l.length l.length) :=
  ⟨by simp [intsC_len], .inr ⟨w.heap.size, l.length, (intsC l).toArray, rfl, Nat.le_refl _, heap_alloc_new w _, Nat.le_refl _, by unfold maxLen; omega, by simp [intsC_len], by simp [List.take_of_length_le, intsC_len]⟩⟩
theorem OwnI.below {w w' : World} {base : Nat} {l : List Int} {v : Value} (h : OwnI w base l v) (hb : Below w.heap.size w w') : OwnI w' base l v := ownsRow_below h hb
/-- Of what was there only some blocks may have turned. -/
structure Fz (X : Nat → Prop) (w w' : World) : Prop where
  os : w'.os = w.os
  tape : w'.tape = w.tape
  output : w'.output = w.output
  size : w.heap.size ≤ w'.heap.size
  block : ∀ k, k < w.heap.size → ¬ X k → w'.heap[k]? = w.heap[k]?
theorem Fz.refl (X : Nat → Prop) (w : World) : Fz X w w := ⟨rfl, rfl, rfl, Nat.le_refl _, fun _ _ _ => rfl⟩
theorem Fz.trans {X : Nat → Prop} {a b c : World} (h : Fz X a b) (k : Fz X b c) : Fz X a c :=
  ⟨k.os.trans h.os, k.tape.trans h.tape, k.output.trans h.output, Nat.le_trans h.size k.size, fun i hi hn => (k.block i (Nat.lt_of_lt_of_le hi h.size) hn).trans (h.block i hi hn)⟩
theorem Fz.of_below {X : Nat → Prop} {a b : World} (h : Below a.heap.size a b) : Fz X a b := ⟨h.os, h.tape, h.output, h.size, fun k hk _ => h.block k hk⟩
theorem Fz.of_grown {X : Nat → Prop} {a b : World} {o : Option Nat} (h : a.grownBy b o) (hx : ∀ k, o = some k → X k) : Fz X a b :=
  ⟨h.os, h.tape, h.output, h.size, fun k hk hn => h.block k hk (fun e => hn (hx k e.symm))⟩
theorem Fz.mono {X Y : Nat → Prop} {a b : World} (h : Fz X a b) (hxy : ∀ k, X k → Y k) : Fz Y a b := ⟨h.os, h.tape, h.output, h.size, fun k hk hn => h.block k hk (fun hx => hn (hxy k hx))⟩
theorem Fz.below {X : Nat → Prop} {a b : World} {B : Nat} (h : Fz X a b) (hB : B ≤ a.heap.size) (hX : ∀ k, k < B → ¬ X k) : Below B a b := ⟨h.os, h.tape, h.output, h.size, fun k hk => h.block k (by omega) (hX k hk)⟩
theorem Fz.set {X : Nat → Prop} (w : World) (b i : Nat) (v : Value) (hb : X b) : Fz X w (w.setCell ⟨b, i, none⟩ v) :=
  ⟨rfl, rfl, rfl, by simp, fun k _ hn => by
    have : b ≠ k := fun e => hn (e ▸ hb)
    simp [World.setCell, Array.getElem?_modify, this]⟩

theorem add_none (ad : Addr) : ad.add 0 = ad := by
  unfold Addr.add
  simp
/-- One cell more at a row of the call's own. -/
theorem wpList_append_one {ops : Array Oper} {rest : List Oper} {o : Oper} {a : Act} {w : World} {Q : Exit → Act → World → Prop} (hgd : o.guard = none) (s x : Operand) (t : TypeId)
    (ho : o.op = .call { callee := .builtin .append, args := #[s, x], argTypes := #[t, t] }) (base : Nat) (e : TypeId) (i : TypeInfo) (z : Value) (bytes : Nat) (ht : Tryz.prog.underlying t = some (.slice e)) (hi : Tryz.prog.info? e = some i)
    (hz : i.zero = some z) (hsize : i.size = 1) (hby : i.bytes = bytes) (hb24 : bytes ≤ 24) (hzs : z.cells.size = 1) (v : Value) (n : Nat) (xs : List Value) (hs : a.eval s = v) (hown : w.ownsRow base e 1 v n xs) (ad : Addr) (u : Value)
    (hx : a.eval x = .slice (some ad) 1 1) (hu : w.cell? ad = some u) (h1 : u.oneCell' = true) (h63 : n ≤ 1000000) (hbase : base ≤ w.heap.size) (H : Nat) (hH : w.heap.size = H)
    (h : ∀ g cap w', w'.ownsRow base e 1 (.slice (some ⟨g, 0, none⟩) (n + 1) cap) (n + 1) (xs ++ [u]) → w.grownBy w' v.ownBlock → (v.ownBlock = some g ∨ g = H) → g < w'.heap.size →
      wpList Tryz.prog ops Q rest (a.put o.dst (.slice (some ⟨g, 0, none⟩) (n + 1) cap)) w') : wpList Tryz.prog ops Q (o :: rest) a w := by
  refine wpList_append_lies _ hgd s x t ho base e i z 1 bytes ht hi hz hsize hby hzs (by decide) v n xs hs hown ad 1 1 [u] hx rfl (fun j q hj => ?_) (fun q hq => by simp at hq; subst hq; exact h1) (by decide) (by unfold maxLen; omega) ?_ hbase H hH h
  · cases j with
    | zero => simp at hj; subst hj; rw [add_none ad]; exact hu
    | succ j => simp at hj
  · have : (n + 1) * bytes ≤ (n + 1) * 24 := Nat.mul_le_mul_left _ hb24
    omega
theorem below_grown' {w w' : World} {B e n : Nat} {v : Value} {xs : List Value} (hg : w.grownBy w' v.ownBlock) (ho : w.ownsRow B e 1 v n xs) (hB : B ≤ w.heap.size) : Below B w w' :=
  ⟨hg.os, hg.tape, hg.output, hg.size, fun k hk => hg.block k (by omega) (fun h => by have := (own_block_lt ho k h.symm).1; omega)⟩
/-- A slice of rows. -/
structure RsAt (w : World) (B : Nat) (R : List (List Int)) (A : Option Addr) (cap : Nat) : Prop where
  l : R.length ≤ cap
  m : cap ≤ maxLen
  z : A = none → cap = 0
  r : R ≠ [] → ∃ b o, A = some ⟨b, o, none⟩ ∧ b < B ∧ ∀ (i : Nat) (r : List Int), R[i]? = some r → ∃ A' c', w.cell? ⟨b, o + i, none⟩ = some (.slice A' r.length c') ∧ IS w B r A' c' ∧ (A' = none → c' = 0)
theorem RsAt.below {w w' : World} {B : Nat} {R : List (List Int)} {A : Option Addr} {cap : Nat} (h : RsAt w B R A cap) (hb : Below B w w') : RsAt w' B R A cap :=
  ⟨h.l, h.m, h.z, fun hne => by
    obtain ⟨b, o, rfl, hl, hr⟩ := h.r hne
    exact ⟨b, o, rfl, hl, fun i r hx => by
      obtain ⟨A', c', h1, h2, h3⟩ := hr i r hx
      exact ⟨A', c', (hb.cell (p := ⟨b, _, none⟩) hl).trans h1, h2.below hb, h3⟩⟩⟩
theorem RsAt.mono {w : World} {B B' : Nat} {R : List (List Int)} {A : Option Addr} {cap : Nat} (h : RsAt w B R A cap) (hB : B ≤ B') : RsAt w B' R A cap :=
  ⟨h.l, h.m, h.z, fun hne => by
    obtain ⟨b, o, rfl, hl, hr⟩ := h.r hne
    exact ⟨b, o, rfl, by omega, fun i r hx => by
      obtain ⟨A', c', h1, h2, h3⟩ := hr i r hx
      exact ⟨A', c', h1, h2.mono hB, h3⟩⟩⟩
theorem RsAt.on {w w' : World} {R : List (List Int)} {A : Option Addr} {cap : Nat} (h : RsAt w w.heap.size R A cap) (hb : Below w.heap.size w w') : RsAt w' w'.heap.size R A cap := (h.below hb).mono hb.size
/-- A slice of what states tell. -/
structure UsAt (w : World) (B : Nat) (T : List Nat) (A : Option Addr) (cap : Nat) : Prop where
  l : T.length ≤ cap
  m : cap ≤ maxLen
  z : A = none → cap = 0
  i : ∀ x ∈ T, x < 18446744073709551616
  r : T ≠ [] → ∃ b o, A = some ⟨b, o, none⟩ ∧ b < B ∧ ∀ (i : Nat) (x : Nat), T[i]? = some x → w.cell? ⟨b, o + i, none⟩ = some (.int .u64 (x : Int))
theorem UsAt.below {w w' : World} {B : Nat} {T : List Nat} {A : Option Addr} {cap : Nat} (h : UsAt w B T A cap) (hb : Below B w w') : UsAt w' B T A cap :=
  ⟨h.l, h.m, h.z, h.i, fun hne => by
    obtain ⟨b, o, rfl, hl, hr⟩ := h.r hne
    exact ⟨b, o, rfl, hl, fun i x hx => (hb.cell (p := ⟨b, _, none⟩) hl).trans (hr i x hx)⟩⟩
theorem UsAt.mono {w : World} {B B' : Nat} {T : List Nat} {A : Option Addr} {cap : Nat} (h : UsAt w B T A cap) (hB : B ≤ B') : UsAt w B' T A cap :=
  ⟨h.l, h.m, h.z, h.i, fun hne => by
    obtain ⟨b, o, rfl, hl, hr⟩ := h.r hne
    exact ⟨b, o, rfl, by omega, hr⟩⟩
theorem UsAt.on {w w' : World} {T : List Nat} {A : Option Addr} {cap : Nat} (h : UsAt w w.heap.size T A cap) (hb : Below w.heap.size w w') : UsAt w' w'.heap.size T A cap := (h.below hb).mono hb.size
theorem any_take {xs : List Int} {k : Nat} {x : Int} (p : Int → Bool) (h : xs[k]? = some x) : (xs.take (k + 1)).any p = ((xs.take k).any p || p x) := by
  rw [List.take_add_one, h, Option.toList_some, List.any_append]
  simp
theorem any_hit {xs : List Int} {k : Nat} {x : Int} {p : Int → Bool} (h : xs[k]? = some x) (hp : p x = true) : xs.any p = true := List.any_eq_true.2 ⟨x, List.mem_of_getElem? h, hp⟩
def IdxOk (w : World) (b : Bool) (r : Ending) (w' : World) : Prop := ∃ i : Int, r = .returned (.int .i64 i) ∧ i64 i ∧ (decide (0 ≤ i) = b) ∧ Below w.heap.size w w'
theorem take_eq_snoc {xs ys : List Int} {k : Nat} {x y : Int} (h : xs.take k = ys.take k) (hx : xs[k]? = some x) (hy : ys[k]? = some y) (he : x = y) : xs.take (k + 1) = ys.take (k + 1) := by
  rw [List.take_add_one, List.take_add_one, h, hx, hy, he]
def u64C (l : List Nat) : List Value := l.map fun (x : Nat) => Value.int .u64 (x : Int)
theorem u64C_len (l : List Nat) : (u64C l).length = l.length := by simp [u64C]
theorem u64C_snoc (l : List Nat) (x : Nat) : u64C (l ++ [x]) = u64C l ++ [.int .u64 (x : Int)] := by simp [u64C]
theorem own_fz {w w' : World} {X : Nat → Prop} {B e z n : Nat} {u : Value} {xs : List Value} (hf : Fz X w w') (ho : w.ownsRow B e z u n xs) (hn : ∀ k, X k → u.ownBlock ≠ some k) : w'.ownsRow B e z u n xs := by
  refine ⟨ho.1, ?_⟩
  rcases ho.2 with h0 | ⟨g, cap, cur, h1, h2, h3, rest⟩
  · exact .inl h0
  · exact .inr ⟨g, cap, cur, h1, h2, (hf.block g (Array.getElem?_eq_some_iff.1 h3).1 (fun hx => hn g hx (by rw [h1]; rfl))).trans h3, rest⟩
theorem Cells.on {W W' : World} {g t : Nat} {cs : Array Value} (h : Cells W g t cs) (hb : Below W.heap.size W W') : Cells W' g t cs := (hb.block _ h.lt).trans h
end Go.Proofs.YtojinnnpfjhifaaGreatDoor

namespace Go.Proofs.YtojinnnpfjhifaaGreatDoor
open Go.RowKit Go.Shelf Go.Lib Go.Maps

/-- An escape that was read. -/
structure Esc where
  size : Nat
  whole : Bool
  op : Bool
  last : Nat
def escNone : Esc := ⟨0, false, false, 0⟩
def inR (lo hi c : Nat) : Bool := decide (lo ≤ c) && decide (c ≤ hi)
/-- How many bytes from lo to hi stand ahead. -/
def skipN (lo hi : Nat) : List Nat → Nat
  | [] => 0
  | c :: r => if inR lo hi c = true then skipN lo hi r + 1 else 0
theorem skipN_le (lo hi : Nat) : ∀ l, skipN lo hi l ≤ l.length
  | [] => Nat.le_refl _
  | c :: r => by
    unfold skipN
    split
    · simpa using skipN_le lo hi r
    · exact Nat.zero_le _
/-- A control sequence of which n bytes were taken. -/
def ctlR (n : Nat) (r : List Nat) : Esc :=
  match r with
  | [] => ⟨n, false, true, 0⟩
  | c :: _ => if inR 64 126 c = true then ⟨n + 1, true, false, c⟩ else ⟨n, false, false, 0⟩
/-- A control sequence, what stands behind its first two bytes. -/
def readC (s : List Nat) : Esc := ctlR (2 + skipN 48 63 s + skipN 32 47 (s.drop (skipN 48 63 s))) (s.drop (skipN 48 63 s + skipN 32 47 (s.drop (skipN 48 63 s))))
/-- The code's way. -/
def readT (l : List Nat) : Esc :=
  match l with
  | [] => escNone
  | c :: r => if c = 27 then (match r with
    | [] => ⟨1, false, true, 0⟩
    | d :: s => if d = 91 then readC s else if inR 64 95 d = true then ⟨2, true, false, d⟩ else ⟨1, false, false, 0⟩) else escNone
/-- The definition's way: state by state. -/
def refR : Nat → Nat → List Nat → Esc
  | _, n, [] => ⟨n, false, true, 0⟩
  | st, n, c :: r => if st = 0 then (if c = 91 then refR 1 (n + 1) r else if inR 64 95 c = true then ⟨2, true, false, c⟩ else ⟨1, false, false, 0⟩)
      else if st = 1 ∧ inR 48 63 c = true then refR 1 (n + 1) r
      else if inR 32 47 c = true then refR 2 (n + 1) r
      else if inR 64 126 c = true then ⟨n + 1, true, false, c⟩ else ⟨n, false, false, 0⟩
theorem refR2 : ∀ (r : List Nat) (n : Nat), refR 2 n r = ctlR (n + skipN 32 47 r) (r.drop (skipN 32 47 r))
  | [], n => rfl
  | c :: r, n => by
    rw [refR, skipN]
    by_cases h : inR 32 47 c = true
    · simp only [h, if_true]
      rw [if_neg (by decide), if_neg (by simp), refR2 r (n + 1)]
      rw [List.drop_succ_cons, Nat.add_assoc, Nat.add_comm 1]
    · rw [if_neg (by decide), if_neg (by simp), if_neg h, if_neg h]
      simp only [Nat.add_zero, List.drop_zero, ctlR]
theorem refR1 : ∀ (r : List Nat) (n : Nat), refR 1 n r = ctlR (n + skipN 48 63 r + skipN 32 47 (r.drop (skipN 48 63 r))) (r.drop (skipN 48 63 r + skipN 32 47 (r.drop (skipN 48 63 r))))
  | [], n => rfl
  | c :: r, n => by
    by_cases h : inR 48 63 c = true
    · have e : skipN 48 63 (c :: r) = skipN 48 63 r + 1 := by rw [skipN, if_pos h]
      rw [e, refR, if_neg (by decide), if_pos ⟨rfl, h⟩, refR1 r (n + 1), List.drop_succ_cons]
      have : skipN 48 63 r + 1 + skipN 32 47 (r.drop (skipN 48 63 r)) = (skipN 48 63 r + skipN 32 47 (r.drop (skipN 48 63 r))) + 1 := by omega
      rw [this, List.drop_succ_cons]
      congr 1
      omega
    · have e : skipN 48 63 (c :: r) = 0 := by rw [skipN, if_neg h]
      have := refR2 (c :: r) n
      rw [refR, if_neg (by decide), if_neg (by simp)] at this
      rw [e, refR, if_neg (by decide), if_neg (by simp [h]), this]
      simp
theorem ref_read (r : List Nat) : refR 0 1 r = readT (27 :: r) := by
  simp only [readT, if_true]
  cases r with
  | nil => rfl
  | cons d s =>
    rw [refR, if_pos rfl]
    by_cases h : d = 91
    · rw [if_pos h]
      dsimp only
      rw [if_pos h, refR1 s 2]
      rfl
    · rw [if_neg h]
      dsimp only
      rw [if_neg h]
theorem readT_not {c : Nat} (r : List Nat) (h : c ≠ 27) : readT (c :: r) = escNone := by simp only [readT, if_neg h]
theorem refR_ge : ∀ (r : List Nat) (st n : Nat), st ≠ 0 → n ≤ (refR st n r).size ∧ (refR st n r).size ≤ n + r.length ∧ ((refR st n r).whole = true → 1 ≤ r.length ∧ n + 1 ≤ (refR st n r).size)
  | [], st, n, h => by simp [refR]
  | c :: r, st, n, h => by
    rw [refR, if_neg h]
    split
    · have := refR_ge r 1 (n + 1) (by decide)
      simp only [List.length_cons]
      omega
    · split
      · have := refR_ge r 2 (n + 1) (by decide)
        simp only [List.length_cons]
        omega
      · split
        · simp
        · simp
theorem readT_size (l : List Nat) : (readT l).size ≤ l.length ∧ ((readT l).size = 0 ↔ l.head? ≠ some 27) := by
  cases l with
  | nil => simp [readT, escNone]
  | cons c r =>
    by_cases h : c = 27
    · subst h
      rw [← ref_read]
      cases r with
      | nil => simp [refR]
      | cons d s =>
        rw [refR, if_pos rfl]
        split
        · have := refR_ge s 1 (1 + 1) (by decide)
          simp only [List.length_cons, List.head?_cons, ne_eq, not_true, iff_false]
          omega
        · split <;> simp
    · rw [readT_not r h]
      simp [escNone, h]
theorem readT_whole {l : List Nat} (h : (readT l).whole = true) : ∃ d s, l = 27 :: d :: s ∧ 2 ≤ (readT l).size ∧ (d = 91 → 3 ≤ (readT l).size) := by
  cases l with
  | nil => simp [readT, escNone] at h
  | cons c r =>
    by_cases hc : c = 27
    · subst hc
      cases r with
      | nil => simp [readT] at h
      | cons d s =>
        refine ⟨d, s, rfl, ?_⟩
        rw [← ref_read] at h ⊢
        rw [refR, if_pos rfl] at h ⊢
        by_cases hd : d = 91
        · rw [if_pos hd] at h ⊢
          have := (refR_ge s 1 (1 + 1) (by decide)).2.2 h
          omega
        · rw [if_neg hd] at h ⊢
          by_cases hi : inR 64 95 d = true
          · rw [if_pos hi] at h ⊢
            simp [hd]
          · rw [if_neg hi] at h
            simp at h
    · rw [readT_not r hc] at h
      simp [escNone] at h
/-- More behind what is read. -/
theorem refR_grows : ∀ (r more : List Nat) (st n : Nat), (st = 0 → n = 1) → ((refR st n r).op = false → refR st n (r ++ more) = refR st n r) ∧ ((refR st n r).op = true → (refR st n r).size = n + r.length ∧ n + r.length ≤ (refR st n (r ++ more)).size)
  | [], more, st, n, h => by
    refine ⟨fun h => by simp [refR] at h, fun _ => ⟨rfl, ?_⟩⟩
    show n + 0 ≤ (refR st n more).size
    by_cases h0 : st = 0
    · obtain rfl := h h0
      subst h0
      cases more with
      | nil => simp [refR]
      | cons c m =>
        rw [refR, if_pos rfl]
        split
        · have := refR_ge m 1 (1 + 1) (by decide); omega
        · split <;> simp
    · exact (refR_ge more st n h0).1
  | c :: r, more, st, n, h => by
    rw [List.cons_append, refR, refR]
    split
    · rename_i h0
      obtain rfl := h h0
      split
      · have := refR_grows r more 1 (1 + 1) (by decide)
        simp only [List.length_cons]
        refine ⟨this.1, fun h => ?_⟩
        have := this.2 h
        omega
      · split <;> simp
    · split
      · have := refR_grows r more 1 (n + 1) (by simp)
        simp only [List.length_cons]
        refine ⟨this.1, fun h => ?_⟩
        have := this.2 h
        omega
      · split
        · have := refR_grows r more 2 (n + 1) (by simp)
          simp only [List.length_cons]
          refine ⟨this.1, fun h => ?_⟩
          have := this.2 h
          omega
        · split <;> simp
theorem readT_grows (r more : List Nat) : ((readT (27 :: r)).op = false → readT (27 :: r ++ more) = readT (27 :: r)) ∧ ((readT (27 :: r)).op = true → (readT (27 :: r)).size = r.length + 1 ∧ r.length + 1 ≤ (readT (27 :: r ++ more)).size) := by
  have := refR_grows r more 0 1 (fun _ => rfl)
  rw [List.cons_append, ← ref_read, ← ref_read]
  refine ⟨this.1, fun h => ?_⟩
  have := this.2 h
  omega
/-- Parameters, then what ends them. -/
theorem refR_params : ∀ (P : List Nat) (n c : Nat) (m : List Nat), (∀ x ∈ P, inR 48 63 x = true) → inR 64 126 c = true → refR 1 n (P ++ c :: m) = ⟨n + P.length + 1, true, false, c⟩
  | [], n, c, m, _, hc => by
    have h1 : inR 48 63 c = false := by simp [inR] at hc ⊢; omega
    have h2 : inR 32 47 c = false := by simp [inR] at hc ⊢; omega
    rw [List.nil_append, refR, if_neg (by decide), if_neg (by simp [h1]), if_neg (by simp [h2]), if_pos hc]
    simp
  | x :: P, n, c, m, hP, hc => by
    rw [List.cons_append, refR, if_neg (by decide), if_pos ⟨rfl, hP x (by simp)⟩, refR_params P (n + 1) c m (fun y hy => hP y (by simp [hy])) hc]
    simp only [List.length_cons]
    congr 1
    omega
theorem readT_seq (P : List Nat) (c : Nat) (m : List Nat) (hP : ∀ x ∈ P, inR 48 63 x = true) (hc : inR 64 126 c = true) : readT (27 :: 91 :: (P ++ c :: m)) = ⟨P.length + 3, true, false, c⟩ := by
  rw [← ref_read, refR, if_pos rfl, if_pos rfl, refR_params P 2 c m hP hc]
  congr 1
  omega

/-! ## What is stripped -/
def stripK : Nat → List Nat → List Nat
  | _, [] => []
  | k, c :: r => if k = 0 then (if (readT (c :: r)).size = 0 then c :: stripK 0 r else stripK ((readT (c :: r)).size - 1) r) else stripK (k - 1) r
theorem stripK_drop : ∀ (k : Nat) (l : List Nat), stripK k l = stripK 0 (l.drop k)
  | 0, l => by simp
  | k + 1, [] => rfl
  | k + 1, c :: r => by rw [stripK, if_neg (by omega), Nat.add_sub_cancel, stripK_drop k r, List.drop_succ_cons]
theorem strip_keep {c : Nat} {r : List Nat} (h : (readT (c :: r)).size = 0) : stripK 0 (c :: r) = c :: stripK 0 r := by rw [stripK, if_pos rfl, if_pos h]
theorem strip_skip {l : List Nat} (h : (readT l).size ≠ 0) : stripK 0 l = stripK 0 (l.drop (readT l).size) := by
  cases l with
  | nil => simp
  | cons c r =>
    rw [stripK, if_pos rfl, if_neg h, stripK_drop]
    obtain ⟨k, hk⟩ := Nat.exists_eq_succ_of_ne_zero h
    rw [hk, List.drop_succ_cons]
    rfl
theorem strip_none : ∀ (l : List Nat) (k : Nat), ∀ x ∈ stripK k l, x ≠ 27 ∧ x ∈ l
  | [], k, x, h => by simp [stripK] at h
  | c :: r, k, x, h => by
    have up : x ≠ 27 ∧ x ∈ r → x ≠ 27 ∧ x ∈ c :: r := fun h => ⟨h.1, by simp [h.2]⟩
    rw [stripK] at h
    split at h
    · split at h
      · rename_i hs
        have := (readT_size (c :: r)).2.1 hs
        rcases List.mem_cons.1 h with rfl | h
        · exact ⟨fun e => this (by simp [e]), by simp⟩
        · exact up (strip_none r 0 x h)
      · exact up (strip_none r _ x h)
    · exact up (strip_none r _ x h)
theorem strip_plain (p r : List Nat) (h : ∀ x ∈ p, x ≠ 27) : stripK 0 (p ++ r) = p ++ stripK 0 r := by
  induction p with
  | nil => rfl
  | cons c p ih =>
    rw [List.cons_append, strip_keep, ih (fun x hx => h x (by simp [hx]))]
    · rfl
    · rw [readT_not _ (h c (by simp))]; rfl
theorem strip_same (l : List Nat) (h : ∀ x ∈ l, x ≠ 27) : stripK 0 l = l := by
  have := strip_plain l [] h
  simpa [stripK] using this
theorem strip_seq (P : List Nat) (c : Nat) (m : List Nat) (hP : ∀ x ∈ P, inR 48 63 x = true) (hc : inR 64 126 c = true) : stripK 0 (27 :: 91 :: (P ++ c :: m)) = stripK 0 m := by
  have e := readT_seq P c m hP hc
  rw [strip_skip (by rw [e]; simp), e]
  show stripK 0 ((27 :: 91 :: (P ++ c :: m)).drop (P.length + 3)) = _
  rw [show P.length + 3 = (P.length + 1) + 1 + 1 from rfl, List.drop_succ_cons, List.drop_succ_cons]
  simp

/-! ## Numbers -/
def dig (c : Nat) : Bool := inR 48 57 c
def numV (n : Nat) : List Nat → Nat
  | [] => n
  | c :: r => numV (10 * n + (c - 48)) r
/-- The number of a part. -/
def numT (l : List Nat) : Option Nat := if l.length ≤ 5 ∧ l.all dig = true then some (numV 0 l) else none
/-- The definition's: behind out, in a number of which d digits were taken. -/
def refN (out : List Nat) (cur d : Nat) : List Nat → Option (List Nat)
  | [] => some (out ++ [cur])
  | c :: r => if c = 59 then refN (out ++ [cur]) 0 0 r else if dig c = true ∧ d < 5 then refN out (10 * cur + (c - 48)) (d + 1) r else none
/-- The code's: part by part. -/
def numsP : List (List Nat) → Option (List Nat)
  | [] => some []
  | p :: r => match numT p with
    | none => none
    | some n => match numsP r with
      | none => none
      | some l => some (n :: l)
theorem refN_part (p r : List Nat) : ∀ (out : List Nat) (cur d : Nat), (∀ x ∈ p, x ≠ 59) → d ≤ 5 → refN out cur d (p ++ r) = if d + p.length ≤ 5 ∧ p.all dig = true then refN out (numV cur p) (d + p.length) r else none := by
  induction p with
  | nil =>
    intro out cur d _ hd
    rw [List.nil_append, if_pos ⟨hd, rfl⟩]
    rfl
  | cons c p ih =>
    intro out cur d h hd
    have ih := ih out (10 * cur + (c - 48)) (d + 1) (fun x hx => h x (by simp [hx]))
    rw [List.cons_append, refN, if_neg (h c (by simp))]
    have e2 : (c :: p).all dig = (dig c && p.all dig) := rfl
    have e1 : (c :: p).length = p.length + 1 := rfl
    have e3 : numV cur (c :: p) = numV (10 * cur + (c - 48)) p := rfl
    rw [e1, e2, e3]
    by_cases hc : dig c = true
    · rw [hc, Bool.true_and]
      by_cases h5 : d < 5
      · rw [if_pos ⟨rfl, h5⟩, ih (by omega), show d + 1 + p.length = d + (p.length + 1) by omega]
      · rw [if_neg (fun h => h5 h.2), if_neg (fun h => h5 (by omega))]
    · rw [Bool.not_eq_true] at hc
      rw [hc, if_neg (by simp), if_neg (by simp)]
theorem refN_out : ∀ (r : List Nat) (out : List Nat) (cur d : Nat), refN out cur d r = (refN [] cur d r).map (out ++ ·)
  | [], out, cur, d => by simp [refN]
  | c :: r, out, cur, d => by
    rw [refN, refN]
    split
    · rw [refN_out r (out ++ [cur]), refN_out r ([] ++ [cur])]
      cases refN [] 0 0 r <;> simp
    · split
      · exact refN_out r out _ _
      · rfl

/-! ## Pieces -/
def u8s (l : List Nat) : List UInt8 := l.map UInt8.ofNat
def nats (l : List UInt8) : List Nat := l.map UInt8.toNat
theorem u8s_len (l : List Nat) : (u8s l).length = l.length := by simp [u8s]
theorem nats_u8s (l : List Nat) (h : ∀ x ∈ l, x < 256) : nats (u8s l) = l := by
  unfold nats u8s
  rw [List.map_map]
  conv => rhs; rw [← List.map_id l]
  exact List.map_congr_left fun x hx => by simp [h x hx]
theorem ofNat_eq (c : Nat) (h : c < 256) : (59 : UInt8) = UInt8.ofNat c ↔ c = 59 := by
  constructor
  · intro e
    have := congrArg UInt8.toNat e
    simp [Nat.mod_eq_of_lt h] at this
    omega
  · rintro rfl; rfl
theorem index_no : ∀ (l : List Nat), (∀ x ∈ l, x < 256) → (∀ x ∈ l, x ≠ 59) → index (u8s l) [59] = -1
  | [], _, _ => rfl
  | c :: r, h, hn => by
    have ih := index_no r (fun x hx => h x (by simp [hx])) (fun x hx => hn x (by simp [hx]))
    have e : ([59] : List UInt8).isPrefixOf (u8s (c :: r)) = false := by
      have := hn c (by simp)
      have h2 : ¬ (59 : UInt8) = UInt8.ofNat c := fun e => this ((ofNat_eq c (h c (by simp))).1 e)
      show ((59 : UInt8) == UInt8.ofNat c && _) = false
      rw [beq_eq_false_iff_ne.2 h2]
      rfl
    unfold u8s at *
    rw [List.map_cons] at *
    unfold index
    rw [e, ih]
    rfl
theorem index_hit : ∀ (p r : List Nat), (∀ x ∈ p, x < 256) → (∀ x ∈ p, x ≠ 59) → index (u8s (p ++ 59 :: r)) [59] = (p.length : Int)
  | [], r, _, _ => by
    unfold u8s
    rw [List.nil_append, List.map_cons]
    unfold index
    rw [if_pos (by simp)]
    rfl
  | c :: p, r, h, hn => by
    have ih := index_hit p r (fun x hx => h x (by simp [hx])) (fun x hx => hn x (by simp [hx]))
    have e : ([59] : List UInt8).isPrefixOf (u8s (c :: p ++ 59 :: r)) = false := by
      have := hn c (by simp)
      have h2 : ¬ (59 : UInt8) = UInt8.ofNat c := fun e => this ((ofNat_eq c (h c (by simp))).1 e)
      show ((59 : UInt8) == UInt8.ofNat c && _) = false
      rw [beq_eq_false_iff_ne.2 h2]
      rfl
    unfold u8s at *
    rw [List.cons_append, List.map_cons] at *
    unfold index
    rw [e, ih]
    have : ((p.length : Int) == -1) = false := by rw [beq_eq_false_iff_ne]; omega
    simp [this]
theorem part_or : ∀ (l : List Nat), (∀ x ∈ l, x ≠ 59) ∨ ∃ p r, l = p ++ 59 :: r ∧ ∀ x ∈ p, x ≠ 59
  | [] => .inl (by simp)
  | c :: l => by
    by_cases h : c = 59
    · exact .inr ⟨[], l, by simp [h], by simp⟩
    · rcases part_or l with h1 | ⟨p, r, rfl, h1⟩
      · exact .inl fun x hx => by
          rcases List.mem_cons.1 hx with rfl | hx
          · exact h
          · exact h1 x hx
      · exact .inr ⟨c :: p, r, rfl, fun x hx => by
          rcases List.mem_cons.1 hx with rfl | hx
          · exact h
          · exact h1 x hx⟩
theorem refN_one (p : List Nat) (h : ∀ x ∈ p, x ≠ 59) : refN [] 0 0 p = (numT p).map (fun n => [n]) := by
  have := refN_part p [] [] 0 0 h (by omega)
  rw [List.append_nil] at this
  rw [this]
  unfold numT
  rw [Nat.zero_add]
  split <;> simp [refN]
theorem refN_two (p r : List Nat) (h : ∀ x ∈ p, x ≠ 59) : refN [] 0 0 (p ++ 59 :: r) = match numT p with | none => none | some n => (refN [] 0 0 r).map (n :: ·) := by
  rw [refN_part p _ [] 0 0 h (by omega)]
  unfold numT
  rw [Nat.zero_add]
  split
  · rw [refN, if_pos rfl, refN_out]
    rfl
  · rfl
theorem nums_cut : ∀ (f : Nat) (l : List Nat), l.length < f → (∀ x ∈ l, x < 256) → numsP ((splitK [59] 0 (countFrom [59] f (u8s l)) (u8s l)).map nats) = refN [] 0 0 l
  | 0, l, hf, _ => by omega
  | f + 1, l, hf, hb => by
    rcases part_or l with h | ⟨p, r, rfl, h⟩
    · have e := index_no l hb h
      rw [countFrom, e, if_pos (show ((-1 : Int) == -1) = true by decide), refN_one l h]
      simp only [splitK, List.map_cons, List.map_nil, nats_u8s l hb, numsP]
      cases numT l <;> rfl
    · have hp : ∀ x ∈ p, x < 256 := fun x hx => hb x (by simp [hx])
      have hr : ∀ x ∈ r, x < 256 := fun x hx => hb x (by simp [hx])
      have e := index_hit p r hp h
      have ih := nums_cut f r (by simp at hf; omega) hr
      have hd : (u8s (p ++ 59 :: r)).drop (p.length + 1) = u8s r := by
        rw [u8s, ← List.map_drop, show p ++ 59 :: r = (p ++ [59]) ++ r by simp, List.drop_left' (by simp)]
        rfl
      have ht : (u8s (p ++ 59 :: r)).take p.length = u8s p := by
        rw [u8s, ← List.map_take, List.take_left' rfl]
        rfl
      have hne : ((p.length : Int) == -1) = false := by rw [beq_eq_false_iff_ne]; omega
      rw [countFrom, e, if_neg (by simp [hne]), Nat.add_comm 1, splitK, e, if_neg (by simp [hne])]
      simp only [Int.toNat_natCast, Nat.add_zero, List.length_cons, List.length_nil, Nat.zero_add]
      rw [hd, ht, List.map_cons, nats_u8s p hp, refN_two p r h, ← ih]
      simp only [numsP]
      cases numT p with
      | none => rfl
      | some n => cases numsP ((splitK [59] 0 (countFrom [59] f (u8s r)) (u8s r)).map nats) <;> rfl
/-- The numbers of the control sequence that a list begins with. -/
def midL (l : List Nat) : List Nat := (l.drop 2).take ((readT l).size - 3)
def numbersT (l : List Nat) : Option (List Nat) := if (readT l).whole = true ∧ l[1]? = some 91 then refN [] 0 0 (midL l) else none
end Go.Proofs.YtojinnnpfjhifaaGreatDoor

namespace Go.Proofs.YtojinnnpfjhifaaGreatDoor
open Go.RowKit Go.Shelf Go.Lib Go.Maps

/-- A slice of bytes. -/
structure BY (w : World) (B : Nat) (xs : List Nat) (A : Option Addr) (cap : Nat) : Prop where
  l : xs.length ≤ cap
  m : cap ≤ maxLen
  z : A = none → cap = 0
  i : ∀ x ∈ xs, x < 256
  r : xs ≠ [] → ∃ b o, A = some ⟨b, o, none⟩ ∧ b < B ∧ ∀ (i : Nat) (x : Nat), xs[i]? = some x → w.cell? ⟨b, o + i, none⟩ = some (.int .u8 (x : Int))
theorem BY.below {w w' : World} {B : Nat} {xs : List Nat} {A : Option Addr} {cap : Nat} (h : BY w B xs A cap) (hb : Below B w w') : BY w' B xs A cap :=
  ⟨h.l, h.m, h.z, h.i, fun hne => by
    obtain ⟨b, o, rfl, hl, hr⟩ := h.r hne
    exact ⟨b, o, rfl, hl, fun i x hx => (hb.cell (p := ⟨b, _, none⟩) hl).trans (hr i x hx)⟩⟩
theorem BY.mono {w : World} {B B' : Nat} {xs : List Nat} {A : Option Addr} {cap : Nat} (h : BY w B xs A cap) (hB : B ≤ B') : BY w B' xs A cap :=
  ⟨h.l, h.m, h.z, h.i, fun hne => by
    obtain ⟨b, o, rfl, hl, hr⟩ := h.r hne
    exact ⟨b, o, rfl, by omega, hr⟩⟩
theorem BY.on {w w' : World} {xs : List Nat} {A : Option Addr} {cap : Nat} (h : BY w w.heap.size xs A cap) (hb : Below w.heap.size w w') : BY w' w'.heap.size xs A cap := (h.below hb).mono hb.size
theorem BY.at {w : World} {B : Nat} {xs : List Nat} {A : Option Addr} {cap i x : Nat} (h : BY w B xs A cap) (hx : xs[i]? = some x) : ∃ b o, A = some ⟨b, o, none⟩ ∧ b < B ∧ w.cell? ⟨b, o + i, none⟩ = some (.int .u8 (x : Int)) := by
  obtain ⟨b, o, e, hb, hc⟩ := h.r (by rintro rfl; simp at hx)
  exact ⟨b, o, e, hb, hc i x hx⟩
theorem BY.lt {w : World} {B : Nat} {xs : List Nat} {A : Option Addr} {cap i x : Nat} (h : BY w B xs A cap) (hx : xs[i]? = some x) : x < 256 := h.i x (List.mem_of_getElem? hx)
theorem BY.len {w : World} {B : Nat} {xs : List Nat} {A : Option Addr} {cap : Nat} (h : BY w B xs A cap) : xs.length ≤ 9223372036854775807 := by have := h.l; have := h.m; unfold maxLen at this; omega
theorem BY.drop {w : World} {B : Nat} {xs : List Nat} {b o cap k : Nat} (h : BY w B xs (some ⟨b, o, none⟩) cap) (hk : k < xs.length) : BY w B (xs.drop k) (some ⟨b, o + k, none⟩) (cap - k) :=
  ⟨(by have hh := h.l; simp; omega), (by have hh := h.m; omega), fun e => (by cases e), fun x hx => h.i x (List.mem_of_mem_drop hx), fun hne => by
    obtain ⟨b', o', e, hl, hr⟩ := h.r (by rintro rfl; simp at hk)
    obtain ⟨rfl, rfl⟩ : b = b' ∧ o = o' := by simpa using e
    exact ⟨b, o + k, rfl, hl, fun i x hx => by
      rw [List.getElem?_drop] at hx
      rw [Nat.add_assoc]
      exact hr _ x hx⟩⟩
theorem BY.take {w : World} {B : Nat} {xs : List Nat} {A : Option Addr} {cap : Nat} (h : BY w B xs A cap) (k : Nat) : BY w B (xs.take k) A cap :=
  ⟨(by have hh := h.l; simp; omega), h.m, h.z, fun x hx => h.i x (List.mem_of_mem_take hx), fun hne => by
    obtain ⟨b, o, rfl, hl, hr⟩ := h.r (by rintro rfl; simp at hne)
    exact ⟨b, o, rfl, hl, fun i x hx => by
      rw [List.getElem?_take] at hx
      split at hx
      · exact hr i x hx
      · cases hx⟩⟩
theorem drop_at {α : Type} {l : List α} {k : Nat} {x : α} (h : l[k]? = some x) : l.drop k = x :: l.drop (k + 1) := by
  obtain ⟨hk, rfl⟩ := List.getElem?_eq_some_iff.1 h
  exact List.drop_eq_getElem_cons hk
theorem at_lt {α : Type} {l : List α} {k : Nat} (h : k < l.length) : ∃ x, l[k]? = some x := ⟨l[k], List.getElem?_eq_getElem h⟩
/-- An escape as a value. -/
def escV (e : Esc) : Value := .agg #[.int .i64 e.size, .bool e.whole, .bool e.op, .int .u8 e.last]
end Go.Proofs.YtojinnnpfjhifaaGreatDoor

namespace Go.Proofs.YtojinnnpfjhifaaGreatDoor
open Go.RowKit Go.Shelf Go.Lib Go.Maps

def u8C (l : List Nat) : List Value := l.map fun (x : Nat) => Value.int .u8 (x : Int)
theorem u8C_len (l : List Nat) : (u8C l).length = l.length := by simp [u8C]
theorem u8C_snoc (l : List Nat) (x : Nat) : u8C (l ++ [x]) = u8C l ++ [.int .u8 (x : Int)] := by simp [u8C]
def OwnB (w : World) (base : Nat) (l : List Nat) (v : Value) : Prop := w.ownsRow base 5 1 v l.length (u8C l)
theorem OwnB.by {w : World} {base : Nat} {l : List Nat} {v : Value} (h : OwnB w base l v) (hl : ∀ x ∈ l, x < 256) : ∃ A cap, v = .slice A l.length cap ∧ BY w w.heap.size l A cap := by
  rcases h.2 with ⟨h1, h2⟩ | ⟨g, cap, cur, h1, h2, h3, h4, h5, h6, h7⟩
  · have hn : l = [] := List.eq_nil_of_length_eq_zero h2
    subst hn
    exact ⟨none, 0, by rw [h1]; rfl, ⟨Nat.le_refl _, by unfold maxLen; omega, fun _ => rfl, (fun x hx => absurd hx (by simp)), (fun hn => absurd rfl hn)⟩⟩
  · refine ⟨_, cap, h1, ⟨h4, h5, fun e => (by cases e), hl, fun _ => ⟨g, 0, rfl, (Array.getElem?_eq_some_iff.1 h3).1, fun i x hx => ?_⟩⟩⟩
    have hc := World.ownsRow.cells h (g := g) (by rw [h1]; rfl) i (.int .u8 (x : Int)) (by simp [u8C, hx])
    rw [add0] at hc
    rw [Nat.zero_add]; exact hc
theorem OwnB.below {w w' : World} {base : Nat} {l : List Nat} {v : Value} (h : OwnB w base l v) (hb : Below w.heap.size w w') : OwnB w' base l v := ownsRow_below h hb
theorem ownB_nil (w : World) (base : Nat) : OwnB w base [] (.slice none 0 0) := ⟨rfl, .inl ⟨rfl, rfl⟩⟩
theorem ownI_nil (w : World) (base : Nat) : OwnI w base [] (.slice none 0 0) := ⟨rfl, .inl ⟨rfl, rfl⟩⟩
theorem info5 : (Tryz.prog.info? 5).map (fun i => (i.zero, i.size, i.bytes)) = some (some (.int .u8 0), 1, 1) := by kernel_rfl
theorem info9 : (Tryz.prog.info? 9).map (fun i => (i.zero, i.size, i.bytes)) = some (some (.string ⟨#[]⟩), 1, 16) := by kernel_rfl
theorem info_parts {t : TypeId} {z : Value} {n b : Nat} (h : (Tryz.prog.info? t).map (fun i => (i.zero, i.size, i.bytes)) = some (some z, n, b)) : ∃ i, Tryz.prog.info? t = some i ∧ i.zero = some z ∧ i.size = n ∧ i.bytes = b := by
  cases e : Tryz.prog.info? t with
  | none => rw [e] at h; simp at h
  | some i =>
    rw [e] at h
    simp at h
    exact ⟨i, rfl, h.1, h.2.1, h.2.2⟩
/-- One byte more. -/
theorem wpList_appB {ops : Array Oper} {rest : List Oper} {o : Oper} {a : Act} {w : World} {Q : Exit → Act → World → Prop} (hgd : o.guard = none) (s x : Operand)
    (ho : o.op = .call { callee := .builtin .append, args := #[s, x], argTypes := #[22, 22] }) (base : Nat) (v : Value) (l : List Nat) (n : Nat) (hn : l.length = n) (hs : a.eval s = v) (hown : OwnB w base l v) (ad : Addr) (Y : Int) (y : Nat) (hy : Y = (y : Int))
    (hx : a.eval x = .slice (some ad) 1 1) (hu : w.cell? ad = some (.int .u8 Y)) (h63 : n ≤ 1000000) (hbase : base ≤ w.heap.size)
    (h : ∀ g cap w', OwnB w' base (l ++ [y]) (.slice (some ⟨g, 0, none⟩) (n + 1) cap) → Below base w w' → wpList Tryz.prog ops Q rest (a.put o.dst (.slice (some ⟨g, 0, none⟩) (n + 1) cap)) w') : wpList Tryz.prog ops Q (o :: rest) a w := by
  obtain ⟨i, hi, hz, hs1, hb1⟩ := info_parts info5
  subst hn hy
  refine wpList_append_one hgd s x 22 ho base 5 i (.int .u8 0) 1 Tryz.underlying22 hi hz hs1 hb1 (by decide) rfl v l.length (u8C l) hs hown ad _ hx hu rfl h63 hbase _ rfl ?_
  intro g cap w' h1 h2 _ _
  refine h g cap w' ?_ (below_grown' h2 hown hbase)
  unfold OwnB
  rw [u8C_snoc, List.length_append]
  exact h1
def strC (l : List ByteArray) : List Value := l.map Value.string
def OwnS (w : World) (base : Nat) (l : List ByteArray) (v : Value) : Prop := w.ownsRow base 9 1 v l.length (strC l)
theorem ownS_nil (w : World) (base : Nat) : OwnS w base [] (.slice none 0 0) := ⟨rfl, .inl ⟨rfl, rfl⟩⟩
theorem OwnS.below {w w' : World} {base : Nat} {l : List ByteArray} {v : Value} (h : OwnS w base l v) (hb : Below w.heap.size w w') : OwnS w' base l v := ownsRow_below h hb
/-- One string more. -/
theorem wpList_appS {ops : Array Oper} {rest : List Oper} {o : Oper} {a : Act} {w : World} {Q : Exit → Act → World → Prop} (hgd : o.guard = none) (s x : Operand)
    (ho : o.op = .call { callee := .builtin .append, args := #[s, x], argTypes := #[100, 100] }) (base : Nat) (v : Value) (l : List ByteArray) (n : Nat) (hn : l.length = n) (hs : a.eval s = v) (hown : OwnS w base l v) (ad : Addr) (y : ByteArray)
    (hx : a.eval x = .slice (some ad) 1 1) (hu : w.cell? ad = some (.string y)) (h63 : n ≤ 1000000) (hbase : base ≤ w.heap.size)
    (h : ∀ g cap w', OwnS w' base (l ++ [y]) (.slice (some ⟨g, 0, none⟩) (n + 1) cap) → Below base w w' → wpList Tryz.prog ops Q rest (a.put o.dst (.slice (some ⟨g, 0, none⟩) (n + 1) cap)) w') : wpList Tryz.prog ops Q (o :: rest) a w := by
  obtain ⟨i, hi, hz, hs1, hb1⟩ := info_parts info9
  subst hn
  refine wpList_append_one hgd s x 100 ho base 9 i (.string ⟨#[]⟩) 16 Tryz.underlying100 hi hz hs1 hb1 (by decide) rfl v l.length (strC l) hs hown ad _ hx hu rfl h63 hbase _ rfl ?_
  intro g cap w' h1 h2 _ _
  refine h g cap w' ?_ (below_grown' h2 hown hbase)
  unfold OwnS
  rw [List.length_append, show strC (l ++ [y]) = strC l ++ [.string y] by simp [strC]]
  exact h1
end Go.Proofs.YtojinnnpfjhifaaGreatDoor

namespace Go.Proofs.YtojinnnpfjhifaaGreatDoor
open Go.RowKit Go.Shelf Go.Lib Go.Maps

theorem valid_iff (r : Int) : Lib.validRune r = true ↔ 0 ≤ r ∧ r ≤ 1114111 ∧ ¬ (55296 ≤ r ∧ r ≤ 57343) := by
  unfold Lib.validRune
  rw [decide_eq_true_eq]
  omega
theorem rr_any (r : Int) (w : World) : Calls Tryz.prog 17 #[.int .i32 r] w fun e w' => e = .returned (.bool (Lib.validRune r)) ∧ w' = w := by
  have hv := valid_iff r
  obtain ⟨V, hV⟩ : ∃ V, Lib.validRune r = V := ⟨_, rfl⟩
  rw [hV] at hv ⊢
  by_cases c1 : 0 ≤ r
  · by_cases c2 : r ≤ 1114111
    · by_cases c3 : r < 55296
      · obtain rfl : V = true := hv.2 (by omega)
        clear hv hV
        go_enter Tryz.func17, Tryz.ntmps17
        go_wp2
        go_ret
        exact ⟨rfl, rfl⟩
      · have d3 : decide (r < 55296) = false := by simpa using c3
        by_cases c4 : 57343 < r
        · obtain rfl : V = true := hv.2 (by omega)
          clear hv hV
          go_enter Tryz.func17, Tryz.ntmps17
          go_wp2
          go_ret
          exact ⟨rfl, rfl⟩
        · have d4 : decide (57343 < r) = false := by simpa using c4
          obtain rfl : V = false := by cases V; rfl; exact absurd (hv.1 rfl) (by omega)
          clear hv hV
          go_enter Tryz.func17, Tryz.ntmps17
          go_wp2
          go_ret
          exact ⟨rfl, rfl⟩
    · have d2 : decide (r ≤ 1114111) = false := by simpa using c2
      obtain rfl : V = false := by cases V; rfl; exact absurd (hv.1 rfl) (by omega)
      clear hv hV
      go_enter Tryz.func17, Tryz.ntmps17
      go_wp2
      go_ret
      exact ⟨rfl, rfl⟩
  · have d1 : decide (0 ≤ r) = false := by simpa using c1
    obtain rfl : V = false := by cases V; rfl; exact absurd (hv.1 rfl) (by omega)
    clear hv hV
    go_enter Tryz.func17, Tryz.ntmps17
    go_wp2
    go_ret
    exact ⟨rfl, rfl⟩

/-- What is read of a number's bytes. -/
def scR (r : Int) : Int := if Lib.validRune r then r else 65533
theorem scR_valid (r : Int) : Lib.validRune (scR r) = true := by
  unfold scR
  split
  · assumption
  · decide
theorem encZ_scR (r : Int) : encodeRuneZ r = encodeRuneZ (scR r) := by
  unfold scR
  split
  · rfl
  · rename_i h
    have h1 : r < 0 ∨ (55296 ≤ r ∧ r ≤ 57343) ∨ 1114111 < r := by
      have h3 : ¬ (0 ≤ r ∧ r ≤ 1114111 ∧ ¬ (55296 ≤ r ∧ r ≤ 57343)) := fun e => h ((valid_iff r).2 e)
      omega
    rw [encodeRuneZ_bad h1]
    decide
def putN (r : Int) : List Nat := (encodeRuneZ r).map Int.toNat
theorem putN_lt (r : Int) : ∀ x ∈ putN r, x < 256 := by
  intro x hx
  obtain ⟨z, hz, rfl⟩ := List.mem_map.1 hx
  have := encodeRuneZ_byte r z hz
  omega
theorem putN_len (r : Int) : (putN r).length ≤ 4 := by
  unfold putN
  rw [List.length_map]
  exact (encodeRuneZ_length r).2
theorem putN_27 {r : Int} (h : r ≠ 27) : ∀ x ∈ putN r, x ≠ 27 := by
  intro x hx e
  obtain ⟨z, hz, hzx⟩ := List.mem_map.1 hx
  have hb := encodeRuneZ_byte r z hz
  have hz27 : z = 27 := by omega
  subst hz27
  by_cases h0 : r < 0 ∨ (55296 ≤ r ∧ r ≤ 57343) ∨ 1114111 < r
  · rw [encodeRuneZ_bad h0] at hz
    simp at hz
  · by_cases c1 : r ≤ 127
    · rw [encodeRuneZ_one (by omega) c1] at hz
      simp at hz
      omega
    · by_cases c2 : r ≤ 2047
      · rw [encodeRuneZ_two (by omega) c2] at hz
        simp at hz
        omega
      · by_cases c3 : r ≤ 65535
        · rw [encodeRuneZ_three (by omega)] at hz
          simp at hz
          omega
        · rw [encodeRuneZ_four (by omega) (by omega)] at hz
          simp at hz
          omega
def PutOk (w : World) (r : Int) (e : Ending) (w' : World) : Prop := ∃ A cap, e = .returned (.slice A (putN r).length cap) ∧ BY w' w'.heap.size (putN r) A cap ∧ Below w.heap.size w w'
theorem rput_post (r : Int) (zs : List Int) (hz : encodeRuneZ r = zs) (w : World) : PutOk w r (.returned (.slice (some ⟨w.heap.size, 0, none⟩) zs.length zs.length)) (w.alloc (.cells (zs.map (Value.int .u8 ·)).toArray 5)) := by
  have hl : (putN r).length = zs.length := by rw [putN, hz, List.length_map]
  have h4 := encodeRuneZ_length r
  rw [hz] at h4
  refine ⟨_, _, by rw [hl], ⟨by omega, by unfold maxLen; omega, fun e => (by cases e), putN_lt r, fun _ => ⟨w.heap.size, 0, rfl, by simp, fun i x hx => ?_⟩⟩, below_new _ _⟩
  rw [World.cell?_alloc_mark, Nat.zero_add]
  unfold putN at hx
  rw [hz, List.getElem?_map] at hx
  cases e : zs[i]? with
  | none => rw [e] at hx; simp at hx
  | some z =>
    rw [e] at hx
    simp at hx
    subst hx
    have hb := encodeRuneZ_byte r z (by rw [hz]; exact List.mem_of_getElem? e)
    simp [e]
    omega
/-! ### virguleref01.Hex -/
end Go.Proofs.YtojinnnpfjhifaaGreatDoor

namespace Go.Proofs.YtojinnnpfjhifaaGreatDoor
open Go.RowKit Go.Shelf
open Go.Lib Go.Great

theorem below_setRow {B : Nat} {w w1 : World} (h : Below B w w1) {g : Nat} (hg : B ≤ g) (cs : Array Value) : Below B w (w1.setRow g cs) :=
  h.trans ⟨rfl, rfl, rfl, by simp, fun k hk => setRow_other _ _ _ _ (by omega)⟩
/-- One operation that builds a value of what is known. -/
def bstep (P : Program) (t : Array Value) (o : Oper) : Option (Array Value) :=
  match o.guard, o.op, o.dst with
  | none, .build ty parts, some d => (P.built ty (parts.map fun (i, x) => (i, Act.eval { tmps := t, defers := [] } x)).toList).map fun cs => t.setIfInBounds d (.agg cs)
  | _, _, _ => none
theorem eval_tmps (a : Act) (x : Operand) : a.eval x = Act.eval { tmps := a.tmps, defers := [] } x := by cases x <;> rfl
theorem wpList_builds {P : Program} {ops : Array Oper} {Q : Exit → Act → World → Prop} {w : World} {rest : List Oper} (bs : List Oper) : ∀ (a : Act) (t' : Array Value), bs.foldlM (bstep P) a.tmps = some t' → wpList P ops Q rest { a with tmps := t' } w → wpList P ops Q (bs ++ rest) a w := by
  induction bs with
  | nil => intro a t' h k; simp at h; subst h; exact k
  | cons o bs ih =>
    intro a t' h k
    rw [List.foldlM_cons] at h
    cases hs : bstep P a.tmps o with
    | none => rw [hs] at h; cases h
    | some t1 =>
      rw [hs] at h
      have h : bs.foldlM (bstep P) t1 = some t' := h
      unfold bstep at hs
      split at hs
      · rename_i ty parts d hg ho hd
        simp only [Option.map_eq_some_iff] at hs
        obtain ⟨cs, hcs, rfl⟩ := hs
        have e : (parts.map fun (i, x) => (i, a.eval x)) = (parts.map fun (i, x) => (i, Act.eval { tmps := a.tmps, defers := [] } x)) := by
          congr 1
        rw [← e] at hcs
        refine wpList_build hg ty parts ho (by rw [hcs]; rfl) ?_
        rw [hcs]
        have e2 : a.put o.dst (.agg cs) = { a with tmps := a.tmps.setIfInBounds d (.agg cs) } := by rw [hd]; rfl
        show wpList P ops Q (bs ++ rest) (a.put o.dst (.agg cs)) w
        rw [e2]
        exact ih _ t' h k
      · cases hs

/-- A name, and its scalar. -/
abbrev NmE := List UInt8 × Int
def nmE : List NmE := [([97, 109, 112], 38), ([97, 112, 111, 115], 39), ([99, 111, 112, 121], 169), ([101, 109, 115, 112], 8195), ([101, 110, 115, 112], 8194), ([103, 116], 62), ([104, 101, 108, 108, 105, 112], 8230), ([108, 97, 113, 117, 111], 171), ([108, 100, 113, 117, 111], 8220), ([108, 114, 109], 8206), ([108, 115, 113, 117, 111], 8216), ([108, 116], 60), ([109, 100, 97, 115, 104], 8212), ([109, 105, 100, 100, 111, 116], 183), ([110, 98, 115, 112], 160), ([110, 100, 97, 115, 104], 8211), ([113, 117, 111, 116], 34), ([114, 97, 113, 117, 111], 187), ([114, 100, 113, 117, 111], 8221), ([114, 101, 103], 174), ([114, 108, 109], 8207), ([114, 115, 113, 117, 111], 8217), ([115, 104, 121], 173), ([116, 104, 105, 110, 115, 112], 8201), ([122, 119, 106], 8205), ([122, 119, 110, 106], 8204)]
def ncell (x : NmE) : List Value := [.string ⟨x.1.toArray⟩, .int .i32 x.2]
def NR : Array Value := (nmE.flatMap ncell).toArray
def ZNR : Array Value := (List.replicate 26 [Value.string ⟨#[]⟩, .int .i32 0]).flatten.toArray
def FR (v : Value) : Array Value := (#[v] ++ (nmE.map fun x => Value.agg (ncell x).toArray).toArray) ++ #[.agg NR]

attribute [local irreducible] wpList Code.wp NR ZNR FR

set_option maxHeartbeats 4000000 in
set_option maxRecDepth 100000 in
theorem rows_any (w : World) : Calls Tryz.prog 127 #[] w fun e w' => e = .returned (.agg NR) ∧ Below w.heap.size w w' := by
  refine calls_of_wp Tryz.func127 rfl ?_
  apply wp_seq_k; intro K hK
  apply wp_region_lit
  refine wpList_allocTo rfl (some 0) rfl (.pointer (some ⟨w.heap.size, 0, none⟩)) (.cells ZNR 181) (by as_aux_lemma => kernel_rfl) ?_
  apply wpList_nil
  refine hK _ _ ?_
  clear hK K
  apply wp_seq_k; intro K hK
  apply wp_region_lit
  refine wpList_splitAt 27 _ (List.take_append_drop 27 _).symm ?_
  refine wpList_builds _ _ (FR (.pointer (some ⟨w.heap.size, 0, none⟩))) (by as_aux_lemma => kernel_rfl) ?_
  have hz := heap_alloc_new w (.cells ZNR 181)
  have h0 : ∀ d, Act.eval { tmps := FR (.pointer (some ⟨w.heap.size, 0, none⟩)), defers := d } (.tmp 0) = .pointer (some ⟨w.heap.size, 0, none⟩) := fun d => by as_aux_lemma => kernel_rfl
  have h1 : ∀ d, Act.eval { tmps := FR (.pointer (some ⟨w.heap.size, 0, none⟩)), defers := d } (.tmp 27) = .agg NR := fun d => by as_aux_lemma => kernel_rfl
  refine wpList_store_row rfl 181 (.tmp 0) (.tmp 27) rfl w.heap.size NR (h0 _) (h1 _) 181 ZNR hz (by as_aux_lemma => kernel_rfl) (by as_aux_lemma => kernel_rfl) (by as_aux_lemma => kernel_rfl) ?_
  apply wpList_nil
  refine hK _ _ ?_
  clear hK K
  refine wp_ret ?_
  refine bodyPost_ret (v := .agg NR) (results_cell_row rfl _ _ w.heap.size 181 NR (0, 0) (.array 26 168) (h0 []) ?_ (by as_aux_lemma => kernel_rfl) rfl (by as_aux_lemma => kernel_rfl)) rfl ⟨rfl, ?_⟩
  · exact setRow_heap _ _ _ _ _ _ hz
  · exact below_setRow (below_new w _) (Nat.le_refl _) _
theorem NR_size : NR.size = 52 := by as_aux_lemma => kernel_rfl
end Go.Proofs.YtojinnnpfjhifaaGreatDoor

namespace Go.Proofs.YtojinnnpfjhifaaGreatDoor
open Go.RowKit Go.Shelf Go.Lib Go.Maps Go.Great

theorem flat_at : ∀ (l : List NmE) (k : Nat) (x : NmE), l[k]? = some x → (l.flatMap ncell)[k * 2]? = some (.string ⟨x.1.toArray⟩) ∧ (l.flatMap ncell)[k * 2 + 1]? = some (.int .i32 x.2)
  | [], k, x, h => by simp at h
  | y :: l, 0, x, h => by
    simp at h
    subst h
    exact ⟨rfl, rfl⟩
  | y :: l, k + 1, x, h => by
    have := flat_at l k x (by simpa using h)
    rw [List.flatMap_cons]
    have e1 : (k + 1) * 2 = k * 2 + 1 + 1 := by omega
    rw [e1]
    exact this
theorem NR_at {k : Nat} {x : NmE} (h : nmE[k]? = some x) : NR[k * 2]? = some (.string ⟨x.1.toArray⟩) ∧ NR[k * 2 + 1]? = some (.int .i32 x.2) := by
  have := flat_at nmE k x h
  unfold NR
  simpa using this
attribute [local irreducible] NR ZNR FR
/-- Which one is the first that is asked for. -/
def idxP (p : NmE → Bool) : Int := match nmE.findIdx? p with
  | none => -1
  | some i => (i : Int)
theorem nmE_len : nmE.length = 26 := rfl
theorem idx_none {p : NmE → Bool} (h : ∀ (j : Nat) (x : NmE), nmE[j]? = some x → p x = false) : idxP p = -1 ∧ nmE.find? p = none := by
  have h1 : ∀ x ∈ nmE, p x = false := fun x hx => by
    obtain ⟨j, hj, e⟩ := List.getElem_of_mem hx
    exact h j x (by rw [List.getElem?_eq_getElem hj, e])
  have e1 : nmE.findIdx? p = none := by rw [List.findIdx?_eq_none_iff]; exact h1
  refine ⟨by rw [idxP, e1], ?_⟩
  rw [List.find?_eq_none]
  exact fun x hx => by rw [h1 x hx]; simp
theorem idx_some {p : NmE → Bool} {k : Nat} {x : NmE} (hx : nmE[k]? = some x) (hp : p x = true) (h : ∀ (j : Nat) (y : NmE), j < k → nmE[j]? = some y → p y = false) : idxP p = (k : Int) ∧ nmE.find? p = some x := by
  obtain ⟨hk, e⟩ := List.getElem?_eq_some_iff.1 hx
  have e1 : nmE.findIdx? p = some k := by
    rw [List.findIdx?_eq_some_iff_getElem]
    exact ⟨hk, by rw [e]; exact hp, fun j hj => by
      rw [h j _ hj (List.getElem?_eq_getElem _)]
      simp⟩
  refine ⟨by rw [idxP, e1], ?_⟩
  rw [List.find?_eq_some_iff_getElem]
  exact ⟨hp, k, hk, e, fun j hj => by
    rw [h j _ hj (List.getElem?_eq_getElem _)]
    simp⟩
theorem idx_or (p : NmE → Bool) : (idxP p = -1 ∧ nmE.find? p = none) ∨ ∃ (k : Nat) (x : NmE), k < 26 ∧ nmE[k]? = some x ∧ idxP p = (k : Int) ∧ nmE.find? p = some x := by
  cases e : nmE.findIdx? p with
  | none =>
    left
    rw [List.findIdx?_eq_none_iff] at e
    exact idx_none fun j x hx => e x (List.mem_of_getElem? hx)
  | some k =>
    right
    rw [List.findIdx?_eq_some_iff_getElem] at e
    obtain ⟨hk, hp, h⟩ := e
    have hs := idx_some (p := p) (List.getElem?_eq_getElem hk) hp (fun j y hj hy => by
      have := h j hj
      obtain ⟨hj2, e2⟩ := List.getElem?_eq_some_iff.1 hy
      rw [e2] at this
      simpa using this)
    exact ⟨k, _, hk, List.getElem?_eq_getElem hk, hs.1, hs.2⟩
/-- What find answers. -/
def rowV (x : NmE) : Value := .agg #[.string ⟨x.1.toArray⟩, .int .i32 x.2]
def findV : Option NmE → Value
  | none => .tuple #[.agg #[.string ⟨#[]⟩, .int .i32 0], .bool false]
  | some x => .tuple #[rowV x, .bool true]

set_option maxHeartbeats 4000000 in
set_option maxRecDepth 100000 in
theorem idx44_any (c0 : Addr) (p : NmE → Bool) (g : Nat) (w : World) (hR : Cells w g 181 NR) (K : ∀ W, Below w.heap.size w W → ∀ s z, (s, z) ∈ nmE → Calls Tryz.prog 129 #[.agg #[.string ⟨s.toArray⟩, .int .i32 z], .pointer (some c0)] W fun e w' => e = .returned (.bool (p (s, z))) ∧ Below W.heap.size W w') :
    Calls Tryz.prog 128 #[.slice (some ⟨g, 0, none⟩) 26 26, .func (Fn.func 129) #[] #[.pointer (some c0)]] w fun e w' => e = .returned (.int .i64 (idxP p)) ∧ Below w.heap.size w w' := by
  have HH := Lib.hid (And.intro hR K)
  clear hR K
  go_enter Tryz.func128, Tryz.ntmps128
  go_wp2_with fail
  go_loopw [5, 8] (fun _ i wr => ∃ k : Nat, i = .int .i64 (k : Int) ∧ k ≤ 26 ∧ (∀ (j : Nat) (y : NmE), j < k → nmE[j]? = some y → p y = false) ∧ Below w.heap.size w wr) (fun _ i _ => 26 - (RowKit.intOf i).toNat)
  case atStart => exact ⟨0, by go_num, by omega, fun j y hj => absurd hj (by omega), Below.refl _ _⟩
  case round =>
    obtain ⟨k, rfl, hk, hj, hb⟩ := hrel
    by_cases hlt : k < 26
    case neg =>
      obtain rfl : k = 26 := by omega
      have he := (idx_none (p := p) fun j x hx => hj j x (by have := (List.getElem?_eq_some_iff.1 hx).1; rw [nmE_len] at this; exact this) hx).1
      have HE := Lib.hid (And.intro he hb)
      clear he hj hb
      go_wp2_with fail
      go_ret
      exact ⟨by rw [HE.out.1]; rfl, HE.out.2⟩
    have i1 : (k : Int) < 26 := by omega
    obtain ⟨⟨s, z⟩, hx⟩ := at_lt (l := nmE) (k := k) (by rw [nmE_len]; exact hlt)
    obtain ⟨r0, r1⟩ := NR_at hx
    have xr := (hb.block g HH.out.1.lt).trans HH.out.1
    have q0 : wr.cell? ⟨g, k * 2, none⟩ = some (.string ⟨s.toArray⟩) := (Cells.cell xr (k * 2)).trans r0
    have q1 : wr.cell? ⟨g, k * 2 + 1, none⟩ = some (.int .i32 z) := (Cells.cell xr (k * 2 + 1)).trans r1
    have C := HH.out.2 wr hb s z (List.mem_of_getElem? hx)
    have HK := Lib.hid (And.intro C (And.intro hb (And.intro hj hx)))
    clear C hb hj hx xr r0 r1
    go_wp2_with fail
    refine HK.out.1.mono ?_
    rintro r w2 ⟨rfl, hb2⟩
    have b2 := HK.out.2.1.trans (hb2.mono HK.out.2.1.size)
    cases hp : p (s, z) with
    | true =>
      have he := (idx_some (p := p) HK.out.2.2.2 hp HK.out.2.2.1).1
      have HE := Lib.hid (And.intro he b2)
      clear hp he b2 hb2 q0 q1
      go_wp2_with fail
      go_ret
      exact ⟨by rw [HE.out.1]; rfl, HE.out.2⟩
    | false =>
      have hend : ∀ (j : Nat) (y : NmE), j < k + 1 → nmE[j]? = some y → p y = false := fun j y hj hy => by
        by_cases h : j = k
        · subst h
          have := hy.symm.trans HK.out.2.2.2
          injection this with this
          rw [this]
          exact hp
        · exact HK.out.2.2.1 j y (by omega) hy
      have HE := Lib.hid (And.intro hend b2)
      clear hp hend b2 hb2 q0 q1
      go_wp2_with fail
      go_roundw
      case rel => exact ⟨k + 1, by go_num, by omega, HE.out.1, HE.out.2⟩
      case measure => simp [RowKit.intOf]; omega
set_option maxHeartbeats 4000000 in
set_option maxRecDepth 100000 in
theorem find44_any (c0 : Addr) (p : NmE → Bool) (w : World) (K : ∀ W, Below w.heap.size w W → ∀ s z, (s, z) ∈ nmE → Calls Tryz.prog 129 #[.agg #[.string ⟨s.toArray⟩, .int .i32 z], .pointer (some c0)] W fun e w' => e = .returned (.bool (p (s, z))) ∧ Below W.heap.size W w') :
    Calls Tryz.prog 113 #[.func (Fn.func 129) #[] #[.pointer (some c0)]] w fun e w' => e = .returned (findV (nmE.find? p)) ∧ Below w.heap.size w w' := by
  have HK := Lib.hid K
  obtain ⟨FV, hFV⟩ : ∃ v, findV (nmE.find? p) = v := ⟨_, rfl⟩
  rw [hFV]
  have HF := Lib.hid hFV
  clear K hFV
  go_enter Tryz.func113, Tryz.ntmps113
  go_wp2_with fail
  refine (rows_any _).mono ?_
  rintro r w1 ⟨rfl, hb1⟩
  rename_i Qx Kx ax Ky ay
  dsimp only
  refine ay _ _ ?_
  refine wpList_allocTo rfl (some 4) rfl (.pointer (some ⟨w1.heap.size, 0, none⟩)) (.cells ZNR 181) (by as_aux_lemma => kernel_rfl) ?_
  have hz := heap_alloc_new w1 (.cells ZNR 181)
  refine wpList_store_row rfl 181 (.tmp 4) (.tmp 6) rfl w1.heap.size NR rfl rfl 181 ZNR hz (by as_aux_lemma => kernel_rfl) (by as_aux_lemma => kernel_rfl) (by as_aux_lemma => kernel_rfl) ?_
  apply wpList_nil
  obtain ⟨W2, hW2⟩ : ∃ W, (w1.alloc (.cells ZNR 181)).setRow w1.heap.size NR = W := ⟨_, rfl⟩
  rw [hW2]
  have x2 : Cells W2 w1.heap.size 181 NR := by rw [← hW2]; exact setRow_heap _ _ _ _ _ _ hz
  have b12 : Below w1.heap.size w1 W2 := by rw [← hW2]; exact below_setRow (below_new w1 _) (Nat.le_refl _) _
  have b1 := hb1
  have x0 : Cells W2 w.heap.size 168 #[.string ⟨#[]⟩, .int .i32 0] := ((cells_new w #[.string ⟨#[]⟩, .int .i32 0] 168).on hb1).on b12
  have b2 : Below w.heap.size w W2 := ((below_new w _).trans (hb1.mono (by simp))).trans (b12.mono (by have := hb1.size; simp at this; omega))
  have C := idx44_any c0 p w1.heap.size W2 x2 (fun W hb s z hm => HK.out W (b2.trans (hb.mono b2.size)) s z hm)
  have H2 := Lib.hid (And.intro C (And.intro x2 (And.intro x0 b2)))
  clear hW2 hz ay Ky C x2 x0 b2 b12 hb1 b1
  go_wp2_with fail
  refine H2.out.1.mono ?_
  rintro r w3 ⟨rfl, hb3⟩
  have x0 := H2.out.2.2.1.on hb3
  have x2 := H2.out.2.1.on hb3
  have b3 := H2.out.2.2.2.trans (hb3.mono H2.out.2.2.2.size)
  have p0 := x0.cell 0
  have p1 := x0.cell 1
  have f0 := x0.froz 0
  have f1 := x0.froz 1
  simp at p0 p1
  obtain ⟨h1, h2⟩ | ⟨k, ⟨s, z⟩, hk, hx, h1, h2⟩ := idx_or p
  · rw [h1]
    have HB := Lib.hid b3
    have HV := Lib.hid (show FV = findV none by rw [← HF.out, h2])
    clear b3 x2 x0 hb3 h1 h2
    go_wp2_with fail
    refine bodyPost_ret (v := .tuple #[.agg #[.string ⟨#[]⟩, .int .i32 0], .bool false]) ?_ rfl ⟨by rw [HV.out]; rfl, ?_⟩
    · simp [results, Tryz.results113, go_sem, p0, p1]
    · exact (HB.out.setCell (p := ⟨_, 0, none⟩) (Nat.le_refl _) _).setCell (p := ⟨_, 1, none⟩) (Nat.le_refl _) _
  · rw [h1]
    have HV := Lib.hid (show FV = findV (some (s, z)) by rw [← HF.out, h2])
    obtain ⟨r0, r1⟩ := NR_at hx
    have q0 : w3.cell? ⟨w1.heap.size, k * 2, none⟩ = some (.string ⟨s.toArray⟩) := (Cells.cell x2 (k * 2)).trans r0
    have q1 : w3.cell? ⟨w1.heap.size, k * 2 + 1, none⟩ = some (.int .i32 z) := (Cells.cell x2 (k * 2 + 1)).trans r1
    have i1 : (k : Int) < 26 := by omega
    have i0 : decide ((k : Int) < 0) = false := by simp
    have HB := Lib.hid b3
    clear b3 x2 x0 hb3 h1 h2 hx r0 r1
    go_wp2_with fail
    refine bodyPost_ret (v := .tuple #[.agg #[.string ⟨s.toArray⟩, .int .i32 z], .bool true]) ?_ rfl ⟨by rw [HV.out]; rfl, ?_⟩
    · simp [results, Tryz.results113, go_sem, p0, p1]
    · exact (HB.out.setCell (p := ⟨_, 0, none⟩) (Nat.le_refl _) _).setCell (p := ⟨_, 1, none⟩) (Nat.le_refl _) _

set_option maxHeartbeats 4000000 in
set_option maxRecDepth 100000 in
theorem idx66_any (c0 c1 : Addr) (p : NmE → Bool) (g : Nat) (w : World) (hR : Cells w g 181 NR) (K : ∀ W, Below w.heap.size w W → ∀ s z, (s, z) ∈ nmE → Calls Tryz.prog 114 #[.agg #[.string ⟨s.toArray⟩, .int .i32 z], .pointer (some c0), .pointer (some c1)] W fun e w' => e = .returned (.bool (p (s, z))) ∧ Below W.heap.size W w') :
    Calls Tryz.prog 128 #[.slice (some ⟨g, 0, none⟩) 26 26, .func (Fn.func 114) #[] #[.pointer (some c0), .pointer (some c1)]] w fun e w' => e = .returned (.int .i64 (idxP p)) ∧ Below w.heap.size w w' := by
  have HH := Lib.hid (And.intro hR K)
  clear hR K
  go_enter Tryz.func128, Tryz.ntmps128
  go_wp2_with fail
  go_loopw [5, 8] (fun _ i wr => ∃ k : Nat, i = .int .i64 (k : Int) ∧ k ≤ 26 ∧ (∀ (j : Nat) (y : NmE), j < k → nmE[j]? = some y → p y = false) ∧ Below w.heap.size w wr) (fun _ i _ => 26 - (RowKit.intOf i).toNat)
  case atStart => exact ⟨0, by go_num, by omega, fun j y hj => absurd hj (by omega), Below.refl _ _⟩
  case round =>
    obtain ⟨k, rfl, hk, hj, hb⟩ := hrel
    by_cases hlt : k < 26
    case neg =>
      obtain rfl : k = 26 := by omega
      have he := (idx_none (p := p) fun j x hx => hj j x (by have := (List.getElem?_eq_some_iff.1 hx).1; rw [nmE_len] at this; exact this) hx).1
      have HE := Lib.hid (And.intro he hb)
      clear he hj hb
      go_wp2_with fail
      go_ret
      exact ⟨by rw [HE.out.1]; rfl, HE.out.2⟩
    have i1 : (k : Int) < 26 := by omega
    obtain ⟨⟨s, z⟩, hx⟩ := at_lt (l := nmE) (k := k) (by rw [nmE_len]; exact hlt)
    obtain ⟨r0, r1⟩ := NR_at hx
    have xr := (hb.block g HH.out.1.lt).trans HH.out.1
    have q0 : wr.cell? ⟨g, k * 2, none⟩ = some (.string ⟨s.toArray⟩) := (Cells.cell xr (k * 2)).trans r0
    have q1 : wr.cell? ⟨g, k * 2 + 1, none⟩ = some (.int .i32 z) := (Cells.cell xr (k * 2 + 1)).trans r1
    have C := HH.out.2 wr hb s z (List.mem_of_getElem? hx)
    have HK := Lib.hid (And.intro C (And.intro hb (And.intro hj hx)))
    clear C hb hj hx xr r0 r1
    go_wp2_with fail
    refine HK.out.1.mono ?_
    rintro r w2 ⟨rfl, hb2⟩
    have b2 := HK.out.2.1.trans (hb2.mono HK.out.2.1.size)
    cases hp : p (s, z) with
    | true =>
      have he := (idx_some (p := p) HK.out.2.2.2 hp HK.out.2.2.1).1
      have HE := Lib.hid (And.intro he b2)
      clear hp he b2 hb2 q0 q1
      go_wp2_with fail
      go_ret
      exact ⟨by rw [HE.out.1]; rfl, HE.out.2⟩
    | false =>
      have hend : ∀ (j : Nat) (y : NmE), j < k + 1 → nmE[j]? = some y → p y = false := fun j y hj hy => by
        by_cases h : j = k
        · subst h
          have := hy.symm.trans HK.out.2.2.2
          injection this with this
          rw [this]
          exact hp
        · exact HK.out.2.2.1 j y (by omega) hy
      have HE := Lib.hid (And.intro hend b2)
      clear hp hend b2 hb2 q0 q1
      go_wp2_with fail
      go_roundw
      case rel => exact ⟨k + 1, by go_num, by omega, HE.out.1, HE.out.2⟩
      case measure => simp [RowKit.intOf]; omega
set_option maxHeartbeats 4000000 in
set_option maxRecDepth 100000 in
theorem find66_any (c0 c1 : Addr) (p : NmE → Bool) (w : World) (K : ∀ W, Below w.heap.size w W → ∀ s z, (s, z) ∈ nmE → Calls Tryz.prog 114 #[.agg #[.string ⟨s.toArray⟩, .int .i32 z], .pointer (some c0), .pointer (some c1)] W fun e w' => e = .returned (.bool (p (s, z))) ∧ Below W.heap.size W w') :
    Calls Tryz.prog 113 #[.func (Fn.func 114) #[] #[.pointer (some c0), .pointer (some c1)]] w fun e w' => e = .returned (findV (nmE.find? p)) ∧ Below w.heap.size w w' := by
  have HK := Lib.hid K
  obtain ⟨FV, hFV⟩ : ∃ v, findV (nmE.find? p) = v := ⟨_, rfl⟩
  rw [hFV]
  have HF := Lib.hid hFV
  clear K hFV
  go_enter Tryz.func113, Tryz.ntmps113
  go_wp2_with fail
  refine (rows_any _).mono ?_
  rintro r w1 ⟨rfl, hb1⟩
  rename_i Qx Kx ax Ky ay
  dsimp only
  refine ay _ _ ?_
  refine wpList_allocTo rfl (some 4) rfl (.pointer (some ⟨w1.heap.size, 0, none⟩)) (.cells ZNR 181) (by as_aux_lemma => kernel_rfl) ?_
  have hz := heap_alloc_new w1 (.cells ZNR 181)
  refine wpList_store_row rfl 181 (.tmp 4) (.tmp 6) rfl w1.heap.size NR rfl rfl 181 ZNR hz (by as_aux_lemma => kernel_rfl) (by as_aux_lemma => kernel_rfl) (by as_aux_lemma => kernel_rfl) ?_
  apply wpList_nil
  obtain ⟨W2, hW2⟩ : ∃ W, (w1.alloc (.cells ZNR 181)).setRow w1.heap.size NR = W := ⟨_, rfl⟩
  rw [hW2]
  have x2 : Cells W2 w1.heap.size 181 NR := by rw [← hW2]; exact setRow_heap _ _ _ _ _ _ hz
  have b12 : Below w1.heap.size w1 W2 := by rw [← hW2]; exact below_setRow (below_new w1 _) (Nat.le_refl _) _
  have b1 := hb1
  have x0 : Cells W2 w.heap.size 168 #[.string ⟨#[]⟩, .int .i32 0] := ((cells_new w #[.string ⟨#[]⟩, .int .i32 0] 168).on hb1).on b12
  have b2 : Below w.heap.size w W2 := ((below_new w _).trans (hb1.mono (by simp))).trans (b12.mono (by have := hb1.size; simp at this; omega))
  have C := idx66_any c0 c1 p w1.heap.size W2 x2 (fun W hb s z hm => HK.out W (b2.trans (hb.mono b2.size)) s z hm)
  have H2 := Lib.hid (And.intro C (And.intro x2 (And.intro x0 b2)))
  clear hW2 hz ay Ky C x2 x0 b2 b12 hb1 b1
  go_wp2_with fail
  refine H2.out.1.mono ?_
  rintro r w3 ⟨rfl, hb3⟩
  have x0 := H2.out.2.2.1.on hb3
  have x2 := H2.out.2.1.on hb3
  have b3 := H2.out.2.2.2.trans (hb3.mono H2.out.2.2.2.size)
  have p0 := x0.cell 0
  have p1 := x0.cell 1
  have f0 := x0.froz 0
  have f1 := x0.froz 1
  simp at p0 p1
  obtain ⟨h1, h2⟩ | ⟨k, ⟨s, z⟩, hk, hx, h1, h2⟩ := idx_or p
  · rw [h1]
    have HB := Lib.hid b3
    have HV := Lib.hid (show FV = findV none by rw [← HF.out, h2])
    clear b3 x2 x0 hb3 h1 h2
    go_wp2_with fail
    refine bodyPost_ret (v := .tuple #[.agg #[.string ⟨#[]⟩, .int .i32 0], .bool false]) ?_ rfl ⟨by rw [HV.out]; rfl, ?_⟩
    · simp [results, Tryz.results113, go_sem, p0, p1]
    · exact (HB.out.setCell (p := ⟨_, 0, none⟩) (Nat.le_refl _) _).setCell (p := ⟨_, 1, none⟩) (Nat.le_refl _) _
  · rw [h1]
    have HV := Lib.hid (show FV = findV (some (s, z)) by rw [← HF.out, h2])
    obtain ⟨r0, r1⟩ := NR_at hx
    have q0 : w3.cell? ⟨w1.heap.size, k * 2, none⟩ = some (.string ⟨s.toArray⟩) := (Cells.cell x2 (k * 2)).trans r0
    have q1 : w3.cell? ⟨w1.heap.size, k * 2 + 1, none⟩ = some (.int .i32 z) := (Cells.cell x2 (k * 2 + 1)).trans r1
    have i1 : (k : Int) < 26 := by omega
    have i0 : decide ((k : Int) < 0) = false := by simp
    have HB := Lib.hid b3
    clear b3 x2 x0 hb3 h1 h2 hx r0 r1
    go_wp2_with fail
    refine bodyPost_ret (v := .tuple #[.agg #[.string ⟨s.toArray⟩, .int .i32 z], .bool true]) ?_ rfl ⟨by rw [HV.out]; rfl, ?_⟩
    · simp [results, Tryz.results113, go_sem, p0, p1]
    · exact (HB.out.setCell (p := ⟨_, 0, none⟩) (Nat.le_refl _) _).setCell (p := ⟨_, 1, none⟩) (Nat.le_refl _) _
end Go.Proofs.YtojinnnpfjhifaaGreatDoor

namespace Go.Proofs.YtojinnnpfjhifaaGreatDoor
open Go.RowKit Go.Shelf Go.Lib Go.Maps

def strB (l : List UInt8) : ByteArray := ⟨l.toArray⟩
theorem strB_size (l : List UInt8) : (strB l).size = l.length := by simp [strB, ByteArray.size]
theorem byteCells_u8s (l : List Nat) (h : ∀ x ∈ l, x < 256) : Lib.byteCells (u8s l) = u8C l := by
  unfold Lib.byteCells u8s u8C
  rw [List.map_map]
  refine List.map_congr_left fun x hx => ?_
  have := h x hx
  simp [Nat.mod_eq_of_lt this]
/-- string(b) of bytes that lie somewhere. -/
theorem conv_by {w : World} {B : Nat} {l : List Nat} {A : Option Addr} {cap : Nat} (h : BY w B l A cap) : (convert 22 9 (.slice A l.length cap)).run Tryz.prog w = .ok (.string ⟨(u8s l).toArray⟩) w := by
  cases l with
  | nil =>
    exact run_convert_bytes_zero (P := Tryz.prog) w 22 5 Tryz.underlying22 Tryz.underlying5 A cap 9 Tryz.underlying9
  | cons c r =>
    obtain ⟨b, o, rfl, _, hc⟩ := h.r (by simp)
    have := run_convert_bytes_back (P := Tryz.prog) w 22 9 5 ⟨b, o, none⟩ cap (u8s (c :: r)) Tryz.underlying22 Tryz.underlying5 Tryz.underlying9 (fun j hj => by
      rw [u8s_len] at hj
      obtain ⟨x, hx⟩ := at_lt hj
      have h1 := hc j x hx
      have h2 := h.lt hx
      have ea : (Addr.mk b o none).add j = ⟨b, o + j, none⟩ := by
        unfold Addr.add
        by_cases h0 : j = 0 <;> simp [h0]
      rw [ea, h1]
      have hu : (u8s (c :: r))[j]? = some (UInt8.ofNat x) := by
        unfold u8s
        rw [List.getElem?_map, hx]
        rfl
      simp [List.getElem?_eq_some_iff] at hu
      obtain ⟨h3, h4⟩ := hu
      simp [h4, Nat.mod_eq_of_lt h2])
    rw [u8s_len] at this
    exact this
/-- The row behind []byte(s). -/
structure ByR (w : World) (g : Nat) (l : List Nat) (cap : Nat) : Prop where
  row : ∃ cur k, w.heap[g]? = some (.cells cur 5 (k, k + 1)) ∧ cur.size = cap ∧ cap ≤ k ∧ ∀ (i x : Nat), l[i]? = some x → cur[i]? = some (.int .u8 (x : Int))
  le : l.length ≤ cap
  mx : cap ≤ maxLen
  b : ∀ x ∈ l, x < 256
theorem ByR.lt {w : World} {g : Nat} {l : List Nat} {cap : Nat} (h : ByR w g l cap) : g < w.heap.size := by
  obtain ⟨cur, k, h1, _⟩ := h.row
  exact (Array.getElem?_eq_some_iff.1 h1).1
theorem ByR.on {w w' : World} {g : Nat} {l : List Nat} {cap : Nat} (h : ByR w g l cap) (hb : Below w.heap.size w w') : ByR w' g l cap := by
  have hlt := h.lt
  obtain ⟨cur, k, h1, h2⟩ := h.row
  exact ⟨⟨cur, k, (hb.block g hlt).trans h1, h2⟩, h.le, h.mx, h.b⟩
theorem ByR.by {w : World} {g : Nat} {l : List Nat} {cap : Nat} (h : ByR w g l cap) : BY w w.heap.size l (some ⟨g, 0, none⟩) cap := by
  have hlt := h.lt
  obtain ⟨cur, k, h1, _, _, h2⟩ := h.row
  refine ⟨h.le, h.mx, fun e => (by cases e), h.b, fun _ => ⟨g, 0, rfl, hlt, fun i x hx => ?_⟩⟩
  rw [Nat.zero_add]
  unfold World.cell?
  rw [h1]
  simp only []
  exact h2 i x hx
theorem nats_lt (l : List UInt8) : ∀ x ∈ nats l, x < 256 := by
  intro x hx
  unfold nats at hx
  obtain ⟨u, _, rfl⟩ := List.mem_map.1 hx
  exact u.toNat_lt
theorem nats_len (l : List UInt8) : (nats l).length = l.length := by simp [nats]
theorem conv_str (w : World) (l : List UInt8) (hl : l.length ≤ 1000000) : ∃ cap W4, (convert 9 22 (.string (strB l))).run Tryz.prog w = .ok (.slice (some ⟨w.heap.size, 0, none⟩) l.length cap) W4 ∧ ByR W4 w.heap.size (nats l) cap ∧ Below w.heap.size w W4 := by
  have h := run_bytes_of_string (P := Tryz.prog) w 9 22 5 (strB l) Tryz.underlying9 Tryz.underlying22 Tryz.underlying5
  rw [strB_size] at h
  have h1 := grownCap_ge w l.length 0 5
  have h2 := grownCap_le_maxLen w l.length 0 5 (by unfold maxLen; omega)
  generalize grownCap w l.length 0 5 = cap at *
  have hsz : (bytesRow (strB l) cap).size = cap := by
    unfold bytesRow
    simp [strB, ByteArray.size]
    omega
  refine ⟨cap, _, h, ⟨⟨_, _, heap_alloc_new w.drew _, hsz, by rw [hsz]; exact Nat.le_refl _, fun i x hx => ?_⟩, by rw [nats_len]; exact h1, h2, nats_lt l⟩, (Below.refl _ _).drew.alloc (Nat.le_refl _) _⟩
  have hi : i < (strB l).data.size := by
    have := (List.getElem?_eq_some_iff.1 hx).1
    rw [nats_len] at this
    simpa [strB] using this
  rw [bytesRow_at _ _ i hi]
  unfold nats at hx
  rw [List.getElem?_map] at hx
  have hi2 : i < l.length := by simpa [strB] using hi
  rw [List.getElem?_eq_getElem hi2] at hx
  simp at hx
  simp [strB, hx]
end Go.Proofs.YtojinnnpfjhifaaGreatDoor

namespace Go.Proofs.YtojinnnpfjhifaaGreatDoor
open Go.RowKit Go.Shelf Go.Lib Go.Maps Go.Great
theorem nm_short : ∀ x ∈ nmE, x.1.length ≤ 100 := by decide
attribute [local irreducible] NR ZNR FR nmE

/-- Is a row of this name? -/
def isNm (n : List UInt8) (x : NmE) : Bool := x.1 == n
def isRu (r : Int) (x : NmE) : Bool := x.2 == r
/-- May a byte follow what is within a name so far? -/
def isMy (u : List Nat) (c : Nat) (x : NmE) : Bool := if c = 59 then x.1 == u8s u else decide (u.length < x.1.length) && x.1.take u.length == u8s u && (nats x.1).getD u.length 0 == c

set_option maxHeartbeats 4000000 in
set_option maxRecDepth 100000 in
theorem clo44_any (w : World) (s : List UInt8) (z : Int) (n : List UInt8) (g : Nat) (hc : Cells w g 9 #[.string ⟨n.toArray⟩]) :
    Calls Tryz.prog 129 #[.agg #[.string ⟨s.toArray⟩, .int .i32 z], .pointer (some ⟨g, 0, none⟩)] w fun e w' => e = .returned (.bool (isNm n (s, z))) ∧ Below w.heap.size w w' := by
  go_enter Tryz.func129, Tryz.ntmps129
  have q0 := hc.cell 0
  simp at q0
  have lt := hc.lt
  go_wp2_with fail
  go_ret
  exact ⟨rfl, below_new _ _⟩
theorem slice_to (s : List UInt8) (k : Nat) (hk : k ≤ s.length) (w : World) : (Instr.slice 9 (.string ⟨s.toArray⟩) none (some (.int .i64 (k : Int))) none).run Tryz.prog w = .ok (.string ⟨(s.take k).toArray⟩) w := by
  have := run_slice_string_h (P := Tryz.prog) w 9 ⟨s.toArray⟩ Tryz.underlying9 .i64 (k : Int) (by omega) (by show (k : Int) ≤ ((s.length : Nat) : Int); omega)
  rw [this]
  have e : (ByteArray.extract ⟨s.toArray⟩ 0 (k : Int).toNat) = ⟨(s.take k).toArray⟩ := by
    apply ByteArray.ext
    simp
  rw [e]
theorem index_at (s : List UInt8) (k : Nat) (hk : k < s.length) (w : World) : (Instr.index 9 (.string ⟨s.toArray⟩) (.int .i64 (k : Int))).run Tryz.prog w = .ok (.int .u8 (((nats s).getD k 0 : Nat) : Int)) w := by
  rw [run_index_string _ _ _ _ _ Tryz.underlying9, dif_pos ⟨by omega, by show (k : Int) < ((s.length : Nat) : Int); omega⟩]
  have : (nats s).getD k 0 = (s[k]'hk).toNat := by simp [nats, List.getD_eq_getElem?_getD, hk]
  rw [this]
  rfl
set_option maxHeartbeats 4000000 in
set_option maxRecDepth 100000 in
theorem clo66_any (w : World) (s : List UInt8) (z : Int) (u : List Nat) (A : Option Addr) (cap c : Nat) (g0 g1 : Nat) (h0 : Cells w g0 22 #[.slice A u.length cap]) (h1 : Cells w g1 5 #[.int .u8 (c : Int)]) (hu : BY w w.heap.size u A cap) (_hs : s.length ≤ 100) :
    Calls Tryz.prog 114 #[.agg #[.string ⟨s.toArray⟩, .int .i32 z], .pointer (some ⟨g0, 0, none⟩), .pointer (some ⟨g1, 0, none⟩)] w fun e w' => e = .returned (.bool (isMy u c (s, z))) ∧ Below w.heap.size w w' := by
  go_enter Tryz.func114, Tryz.ntmps114
  have q0 := h0.cell 0
  have q1 := h1.cell 0
  simp at q0 q1
  have lt0 := h0.lt
  have lt1 := h1.lt
  have ha := below_new w (.cells #[.string ⟨s.toArray⟩, .int .i32 z] 168)
  have hcv := conv_by (hu.on ha)
  by_cases hc : c = 59
  case pos =>
    subst hc
    go_wp2_with fail
    go_ret
    exact ⟨rfl, below_new _ _⟩
  case neg =>
    have hc1 : ¬ (c : Int) = 59 := by omega
    have hc2 : ((c : Int) == 59) = false := by simp; omega
    by_cases hl : u.length < s.length
    case neg =>
      go_wp2_with go_quiet (fail)
      go_ret
      refine ⟨?_, below_drewN (below_new _ _) _⟩
      simp [isMy, hc, hl]
    case pos =>
      have hsl := slice_to s u.length (by omega)
      have hix := index_at s u.length hl
      have hcvn := fun n => conv_by ((hu.on ha).on (below_drewN (Below.refl _ _) n))
      by_cases he : s.take u.length = u8s u
      case neg =>
        have he2 : (s.take u.length == u8s u) = false := by simp [he]
        go_wp2_with go_quiet (fail)
        go_ret
        refine ⟨?_, below_drewN (below_new _ _) _⟩
        simp [isMy, hc, hl, he]
      case pos =>
        go_wp2_with go_quiet (fail)
        go_ret
        refine ⟨?_, below_drewN (below_new _ _) _⟩
        rw [isMy, if_neg hc]
        have e3 : ((((nats s)[u.length]?.getD 0 : Nat) : Int) == (c : Int)) = ((nats s).getD u.length 0 == c) := by
          rw [List.getD_eq_getElem?_getD, Bool.eq_iff_iff]
          simp only [beq_iff_eq]
          omega
        simp only [he, hl, decide_true, beq_self_eq_true, Bool.true_and]
        exact congrArg (fun b => Ending.returned (Value.bool b)) e3
set_option maxHeartbeats 4000000 in
set_option maxRecDepth 100000 in
theorem find_any (w : World) (n : List UInt8) :
    Calls Tryz.prog 115 #[.string ⟨n.toArray⟩] w fun e w' => e = .returned (.tuple #[.int .i32 (((nmE.find? (isNm n)).map (·.2)).getD 0), .bool (nmE.find? (isNm n)).isSome]) ∧ Below w.heap.size w w' := by
  go_enter Tryz.func115, Tryz.ntmps115
  have C := find44_any ⟨w.heap.size, 0, none⟩ (isNm n) (w.alloc (.cells #[.string ⟨n.toArray⟩] 9)) (fun W hb s z _ => clo44_any W s z n _ ((cells_new w #[.string ⟨n.toArray⟩] 9).on hb))
  go_wp2_with fail
  refine C.mono ?_
  rintro r w1 ⟨rfl, hb1⟩
  have hb := (below_new w (.cells #[.string ⟨n.toArray⟩] 9)).trans (hb1.mono (by simp))
  cases hf : nmE.find? (isNm n) with
  | none =>
    simp only [findV]
    have HB := Lib.hid (And.intro hb hf)
    clear hb hb1 C hf
    go_wp2_with fail
    refine bodyPost_ret (v := .tuple #[.int .i32 0, .bool false]) ?_ rfl ⟨by rw [HB.out.2]; rfl, ?_⟩
    · simp [results, Tryz.results115, go_sem]
    · exact HB.out.1.trans ((below_new w1 _).mono HB.out.1.size)
  | some x =>
    obtain ⟨s, z⟩ := x
    simp only [findV, rowV]
    have HB := Lib.hid (And.intro hb hf)
    clear hb hb1 C hf
    go_wp2_with fail
    refine bodyPost_ret (v := .tuple #[.int .i32 z, .bool true]) ?_ rfl ⟨by rw [HB.out.2]; rfl, ?_⟩
    · simp [results, Tryz.results115, go_sem]
    · exact HB.out.1.trans ((below_new w1 _).mono HB.out.1.size)
/-- The scalar of a name; 0 if it is none. -/
def nmR (n : List UInt8) : Int := ((nmE.find? (isNm n)).map (·.2)).getD 0
set_option maxHeartbeats 4000000 in
set_option maxRecDepth 100000 in
theorem ofName_any (w : World) (u : List Nat) (A : Option Addr) (cap : Nat) (hu : BY w w.heap.size u A cap) :
    Calls Tryz.prog 95 #[.slice A u.length cap] w fun e w' => e = .returned (.int .i32 (nmR (u8s u))) ∧ Below w.heap.size w w' := by
  go_enter Tryz.func95, Tryz.ntmps95
  have hcv := conv_by hu
  have C := find_any w (u8s u)
  go_wp2_with fail
  refine C.mono ?_
  rintro r w1 ⟨rfl, hb1⟩
  go_wp2_with fail
  go_ret
  exact ⟨rfl, hb1⟩
set_option maxHeartbeats 4000000 in
set_option maxRecDepth 100000 in
theorem mayName_any (w : World) (u : List Nat) (A : Option Addr) (cap c : Nat) (hu : BY w w.heap.size u A cap) :
    Calls Tryz.prog 94 #[.slice A u.length cap, .int .u8 (c : Int)] w fun e w' => e = .returned (.bool (nmE.find? (isMy u c)).isSome) ∧ Below w.heap.size w w' := by
  have b1 := below_new w (.cells #[.slice A u.length cap] 22)
  have b2 := below_new (w.alloc (.cells #[.slice A u.length cap] 22)) (.cells #[.int .u8 (c : Int)] 5)
  have b3 := b1.trans (b2.mono (by simp))
  have x1 := (cells_new w #[.slice A u.length cap] 22).on b2
  have x2 := cells_new (w.alloc (.cells #[.slice A u.length cap] 22)) #[.int .u8 (c : Int)] 5
  have C := find66_any ⟨w.heap.size, 0, none⟩ ⟨w.heap.size + 1, 0, none⟩ (isMy u c) ((w.alloc (.cells #[.slice A u.length cap] 22)).alloc (.cells #[.int .u8 (c : Int)] 5)) (fun W hb s z hm =>
    clo66_any W s z u A cap c _ _ (x1.on hb) (by have := x2.on hb; simpa using this) ((hu.on b3).on hb) (nm_short _ hm))
  have HC := Lib.hid (And.intro C b3)
  clear C b1 b2 b3 x1 x2
  go_enter Tryz.func94, Tryz.ntmps94
  go_wp2_with fail
  refine HC.out.1.mono ?_
  rintro r w1 ⟨rfl, hb1⟩
  have hb := HC.out.2.trans (hb1.mono (by simp; omega))
  cases hf : nmE.find? (isMy u c) with
  | none =>
    simp only [findV]
    have HB := Lib.hid (And.intro hb hf)
    clear hb hb1 hf HC
    go_wp2_with fail
    go_ret
    exact ⟨by rw [HB.out.2]; rfl, HB.out.1.trans ((below_new w1 _).mono HB.out.1.size)⟩
  | some x =>
    obtain ⟨s, z⟩ := x
    simp only [findV, rowV]
    have HB := Lib.hid (And.intro hb hf)
    clear hb hb1 hf HC
    go_wp2_with fail
    go_ret
    exact ⟨by rw [HB.out.2]; rfl, HB.out.1.trans ((below_new w1 _).mono HB.out.1.size)⟩
end Go.Proofs.YtojinnnpfjhifaaGreatDoor



