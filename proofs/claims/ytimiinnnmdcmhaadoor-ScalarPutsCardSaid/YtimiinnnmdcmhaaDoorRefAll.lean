/-
  Contracts: virguleref01.All: one piece behind the other.
-/
import Derived.OwnWalk
import Derived.Deep.AppendLies
import Derived.Test.YtimiinnnmdcmhaaDoorStarts
import Derived.Test.YtimiinnnmdcmhaaDoorAwake
namespace Go.Proofs.YtimiinnnmdcmhaaDoor
open Go.RowKit Go.Shelf
open Go.Lib

def cell3 (x : Rec) : List Value := [.int .i32 x.1, .int .i64 x.2.2.1, .bool x.2.2.2]
def cells3 (xs : List Rec) : List Value := xs.flatMap cell3
theorem cells3_snoc (xs : List Rec) (x : Rec) : cells3 (xs ++ [x]) = cells3 xs ++ cell3 x := by simp [cells3]
theorem cells3_length (xs : List Rec) : (cells3 xs).length = 3 * xs.length := by
  induction xs with
  | nil => rfl
  | cons x xs ih => simp [cells3, cell3] at *; omega
theorem cells3_get (xs : List Rec) (j : Nat) (x : Rec) (h : xs[j]? = some x) : (cells3 xs)[j * 3]? = some (.int .i32 x.1) ∧ (cells3 xs)[j * 3 + 1]? = some (.int .i64 x.2.2.1) ∧ (cells3 xs)[j * 3 + 2]? = some (.bool x.2.2.2) := by
  induction xs generalizing j with
  | nil => simp at h
  | cons y ys ih =>
    have e : cells3 (y :: ys) = .int .i32 y.1 :: .int .i64 y.2.2.1 :: .bool y.2.2.2 :: cells3 ys := by simp [cells3, cell3]
    rw [e]
    cases j with
    | zero => simp at h; subst h; simp
    | succ j =>
      have := ih j (by simpa using h)
      have e1 : (j + 1) * 3 = j * 3 + 1 + 1 + 1 := by omega
      rw [e1]
      simpa using this

theorem Tryd.info27 : (Tryd.prog.info? 27).map (fun i => (i.zero, i.size, i.bytes)) = some (some (.agg #[.int .i32 0, .int .i64 0, .bool false]), 3, 24) := by kernel_rfl

/-- A slice of pieces of the call's own. -/
def HoldsP (B : Nat) (xs : List Rec) (w : World) (e : Ending) (w' : World) : Prop :=
  ∃ v, e = .returned v ∧ w'.ownsRow B 27 3 v xs.length (cells3 xs) ∧ (v = .slice none 0 0 ↔ xs = []) ∧ Below B w w'

theorem own_block_lt {w : World} {base e size n : Nat} {v : Value} {xs : List Value} (h : w.ownsRow base e size v n xs) : ∀ k, v.ownBlock = some k → base ≤ k ∧ k < w.heap.size := by
  rcases h.2 with ⟨rfl, _⟩ | ⟨g, cap, cur, rfl, hb, hh, _⟩
  · intro k e; simp [Value.ownBlock] at e
  · intro k e
    obtain rfl : g = k := by simpa [Value.ownBlock] using e
    exact ⟨hb, (Array.getElem?_eq_some_iff.1 hh).1⟩

theorem ownsRow_below {w w' : World} {base e size n : Nat} {v : Value} {xs : List Value} (h : w.ownsRow base e size v n xs) (hb : Below w.heap.size w w') : w'.ownsRow base e size v n xs :=
  h.kept (grown_of_below hb) (by cases v.ownBlock <;> simp)

set_option maxHeartbeats 4000000 in
set_option maxRecDepth 100000 in
theorem refall_any (A : Option Addr) (len cap : Nat) (f : Nat → Nat) (w : World) (hS : Sl w w.heap.size A len cap f) (hlim : len ≤ 1000000) :
    Calls Tryd.prog 18 #[.slice A len cap] w (HoldsP w.heap.size (rest len f 0) w) := by
  obtain ⟨i0, hi, hz0, hz1, hz2⟩ := info_parts Tryd.info27
  have hrl := rest_length len f
  have HS := Lib.hid hS
  clear hS
  go_enter Tryd.func18, Tryd.ntmps18
  go_wp2
  go_loopw [3, 4] (fun v s wr => ∃ (i : Nat) (pre : List Rec), s = .int .i64 i ∧ i ≤ len ∧ rest len f 0 = pre ++ rest len f i ∧ wr.ownsRow w.heap.size 27 3 v pre.length (cells3 pre) ∧ (v = .slice none 0 0 ↔ pre = []) ∧ Below w.heap.size w wr) (fun _ s _ => len - (RowKit.intOf s).toNat)
  case atStart => exact ⟨0, [], rfl, Nat.zero_le _, rfl, World.ownsRow_nil _ _ _ _, by simp, Below.refl _ _⟩
  case round =>
    obtain ⟨i, pre, rfl, hil, hr, hown, hnil, hb⟩ := hrel
    have HR := Lib.hid hr
    have HN := Lib.hid hnil
    clear hr hnil
    by_cases hlt : i < len
    · obtain ⟨b, off, rfl, hbl, hBs⟩ := (HS.out.below hb).2.2 (by omega)
      have C := at_any b off len cap i f wr hBs hlt HS.out.1 HS.out.2.1
      have hq : rest len f 0 = pre ++ [rd len f i] ++ rest len f (i + (rd len f i).2.2.1) := by rw [HR.out, rest_cons len f hlt, List.append_assoc]; rfl
      have hsz := rd_size len f hlt
      have hrd : pc (len - i) (fun j => f (i + j)) = ((rd len f i).1, (rd len f i).2.2.1, (rd len f i).2.2.2) := rfl
      rw [hrd] at C
      generalize rd len f i = x at *
      obtain ⟨R, i', S, Wh⟩ := x
      have HQ := Lib.hid hq
      have C := Lib.hid C
      have i1 : (i : Int) < (len : Int) := by omega
      have hpl : pre.length < 1000000 := by
        have : (rest len f 0).length = pre.length + 1 + (rest len f (i + (R, i', S, Wh).2.2.1)).length := by rw [hq]; simp; omega
        omega
      clear hq hrd hBs
      go_wp2_with fail
      refine C.out.mono ?_
      rintro e w1 ⟨rfl, hb1⟩
      have hs1 := hb1.size
      have hs0 := hb.size
      have hlt0 := own_block_lt hown
      have hown1 : w1.ownsRow w.heap.size 27 3 u3 pre.length (cells3 pre) := ownsRow_below hown hb1
      have hown2 := (hown1.alloc (.cells #[.int .i32 R, .int .i64 S, .bool Wh] 27)).alloc (.cells #[.int .i32 R, .int .i64 S, .bool Wh] 27)
      have hp := World.cell?_alloc_lt (w1.alloc (.cells #[.int .i32 R, .int .i64 S, .bool Wh] 27)) (.cells #[.int .i32 R, .int .i64 S, .bool Wh] 27) ⟨w1.heap.size, 1, none⟩ (by simp)
      have hnews : ∀ j u, ([.int .i32 R, .int .i64 S, .bool Wh] : List Value)[j]? = some u → ((w1.alloc (.cells #[.int .i32 R, .int .i64 S, .bool Wh] 27)).alloc (.cells #[.int .i32 R, .int .i64 S, .bool Wh] 27)).cell? ((⟨w1.heap.size + 1, 0, none⟩ : Addr).add j) = some u := by
        intro j u hu
        rw [add0]
        have hh := World.alloc_heap_new (w1.alloc (.cells #[.int .i32 R, .int .i64 S, .bool Wh] 27)) (.cells #[.int .i32 R, .int .i64 S, .bool Wh] 27)
        rw [World.size_alloc] at hh
        have := Cells.cell (show Cells _ _ 27 _ from hh) j
        rw [this]
        simpa using hu
      go_wp2_with (at_builtin; refine wpList_append_own _ rfl _ _ 34 rfl w.heap.size 27 i0 (.agg #[.int .i32 0, .int .i64 0, .bool false]) 3 24 Tryd.underlying34 hi hz0 hz1 hz2 rfl (by decide) u3 pre.length (cells3 pre) rfl hown2 ⟨w1.heap.size + 1, 0, none⟩ 1 1 [.int .i32 R, .int .i64 S, .bool Wh] rfl rfl hnews ?c2 ?c3 ?c4 ?c5 ?_)
      case c2 => intro u hu; simp at hu; rcases hu with rfl | rfl | rfl <;> rfl
      case c3 => unfold maxLen; omega
      case c4 => omega
      case c5 => simp; omega
      intro v' w2 hown3 hgrow _
      obtain ⟨g', cap', rfl⟩ := ownsRow_succ hown3
      have hp2 : w2.cell? ⟨w1.heap.size, 1, none⟩ = some (.int .i64 S) := by
        rw [hgrow.cell_far ⟨w1.heap.size, 1, none⟩ (by simp; omega) (fun e => by have := (hlt0 _ e.symm).2; simp at this; omega), hp]
        simp
      have hbz : Below w.heap.size w w2 := by
        refine (((hb.trans (hb1.mono hs0)).alloc (by omega) _).alloc (by simp; omega) _).grown hgrow (by simp; omega) (fun k e => (hlt0 k e).1)
      have S1 : (i : Int) + (S : Int) ≤ (len : Int) := by have h : i + S ≤ len := hsz.2; omega
      have S0 : (0 : Int) ≤ (S : Int) := by omega
      clear hnews hp hown2 hown1 hgrow
      go_wp2
      go_roundw
      case rel => exact ⟨i + S, pre ++ [(R, i', S, Wh)], by go_num, hsz.2, HQ.out, by rw [cells3_snoc, List.length_append]; exact hown3, by simp, hbz⟩
      case measure => simp [RowKit.intOf]; have h : 1 ≤ S := hsz.1; omega
    · have e : rest len f i = [] := rest_end len f (by omega)
      have hq : rest len f 0 = pre := by rw [HR.out, e, List.append_nil]
      have HQ := Lib.hid hq
      have i1 : (len : Int) ≤ (i : Int) := by omega
      clear e hq
      go_wp2
      go_ret
      exact ⟨u3, rfl, by rw [HQ.out]; exact hown, by rw [HQ.out]; exact HN.out, hb⟩
end Go.Proofs.YtimiinnnmdcmhaaDoor
