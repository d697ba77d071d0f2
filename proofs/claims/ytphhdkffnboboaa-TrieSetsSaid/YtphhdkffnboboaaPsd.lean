/-
  Contracts: trie.fill.
  Blocks as keys of a map; blocks that are alike.
  Operations on whole blocks: a block is loaded, a slice of one block is made. Which blocks are alike, numbered as they first come.
  What trie.share keeps: the trie's block, the blocks seen.
-/
import Derived.BigRegion
import Derived.RegionTactic
import Derived.Great.Walk
import Derived.Laws.Rows
import Derived.Laws.Tables
import Derived.Test.YtphhdkffnboboaaPsc
import Derived.Maps.OwnSet
import Derived.Maps.Views
import Derived.DeepKeys4
import Derived.Deep.RegionLaw
import Derived.Deep.AppendLies
import Derived.Great.BuildSlice
import Derived.Deep.MidRow
namespace Go.Proofs.Ytphhdkffnboboaa
open Go.RowKit Go.Shelf
open Go.Lib Go.Great

/-- All blocks: a row of bytes, told by a function. -/
def U8B (w : World) (B : Nat) (f : Nat → Int) : Prop := ∃ cs : Array Value, w.heap[B]? = some (.cells cs 84 (0, 0)) ∧ cs.size = 1114112 ∧ ∀ i, i < 1114112 → cs[i]? = some (.int .u8 (f i))
theorem U8B.lt {w : World} {B : Nat} {f : Nat → Int} (h : U8B w B f) : B < w.heap.size := by obtain ⟨_, h, _⟩ := h; exact (Array.getElem?_eq_some_iff.1 h).1
theorem U8B.cell {w : World} {B : Nat} {f : Nat → Int} (h : U8B w B f) {i : Nat} (hi : i < 1114112) : w.cell? ⟨B, i, none⟩ = some (.int .u8 (f i)) ∧ w.frozen? ⟨B, i, none⟩ = false := by
  obtain ⟨cs, h1, h2, h3⟩ := h
  exact ⟨(cell_of_row w B i cs 84 (0, 0) h1).trans (h3 i hi), frozen_of_row w B i cs 84 h1⟩
theorem U8B.kept {w w' : World} {B : Nat} {f : Nat → Int} (h : U8B w B f) (he : w'.heap[B]? = w.heap[B]?) : U8B w' B f := by
  obtain ⟨cs, h1, h2⟩ := h
  exact ⟨cs, he.trans h1, h2⟩
theorem U8B.below {w w' : World} {B : Nat} {f : Nat → Int} (h : U8B w B f) (hb : Below w.heap.size w w') : U8B w' B f := h.kept (hb.block B h.lt)
theorem U8B.setCell {w : World} {B : Nat} {f : Nat → Int} (h : U8B w B f) {j : Nat} (_hj : j < 1114112) (v : Int) : U8B (w.setCell ⟨B, j, none⟩ (.int .u8 v)) B (fun i => if i = j then v else f i) := by
  obtain ⟨cs, h1, h2, h3⟩ := h
  refine ⟨cs.setIfInBounds j (.int .u8 v), heap_setCell_same w B j cs 84 _ h1, by simpa using h2, fun i hi => ?_⟩
  rw [Array.getElem?_setIfInBounds]
  by_cases c : j = i
  · subst c
    simp [h2, hi]
  · rw [if_neg c]
    show cs[i]? = some (.int .u8 (if i = j then v else f i))
    rw [if_neg (fun e => c e.symm)]
    exact h3 i hi
theorem U8B.congr {w : World} {B : Nat} {f g : Nat → Int} (h : U8B w B f) (e : ∀ i, i < 1114112 → f i = g i) : U8B w B g := by
  obtain ⟨cs, h1, h2, h3⟩ := h
  exact ⟨cs, h1, h2, fun i hi => by rw [h3 i hi, e i hi]⟩
/-- Ranges lie in another block. -/
theorem U8B.apart {w : World} {B b o : Nat} {f : Nat → Int} {xs : List Rng} (h : U8B w B f) (hR : RgAt w b o xs) (hn : xs ≠ []) : b ≠ B := by
  rintro rfl
  obtain ⟨cs, h1, h2, h3⟩ := h
  obtain ⟨x, hx⟩ : ∃ x, xs[0]? = some x := ⟨xs[0]'(List.length_pos_iff.2 hn), List.getElem?_eq_getElem _⟩
  have hc := (hR 0 x hx).1
  rw [cell_of_row w b _ cs 84 (0, 0) h1] at hc
  have hlt := (Array.getElem?_eq_some_iff.1 hc).1
  rw [h3 _ (by omega)] at hc
  cases hc

/-- What was there stays, but for one block. -/
structure But (B : Nat) (w w' : World) : Prop where
  os : w'.os = w.os
  tape : w'.tape = w.tape
  output : w'.output = w.output
  size : w.heap.size ≤ w'.heap.size
  block : ∀ k, k < w.heap.size → k ≠ B → w'.heap[k]? = w.heap[k]?
theorem But.refl (B : Nat) (w : World) : But B w w := ⟨rfl, rfl, rfl, Nat.le_refl _, fun _ _ _ => rfl⟩
theorem But.trans {B : Nat} {a b c : World} (h : But B a b) (k : But B b c) : But B a c :=
  ⟨k.os.trans h.os, k.tape.trans h.tape, k.output.trans h.output, Nat.le_trans h.size k.size, fun i hi hn => (k.block i (Nat.lt_of_lt_of_le hi h.size) hn).trans (h.block i hi hn)⟩
theorem But.of_below {B : Nat} {w w' : World} (h : Below w.heap.size w w') : But B w w' := ⟨h.os, h.tape, h.output, h.size, fun k hk _ => h.block k hk⟩
theorem But.drew {B : Nat} {a w : World} (h : But B a w) : But B a w.drew := ⟨h.os, h.tape, h.output, h.size, h.block⟩
theorem But.setCell {B : Nat} (w : World) (j : Nat) (v : Value) : But B w (w.setCell ⟨B, j, none⟩ v) :=
  ⟨rfl, rfl, rfl, by simp [World.setCell], fun k _ hn => Below.heap_setCell _ _ _ _ hn⟩
theorem But.cell {B : Nat} {w w' : World} (h : But B w w') {p : Addr} (hp : p.block < w.heap.size) (hn : p.block ≠ B) : w'.cell? p = w.cell? p := World.cell?_of_block (w := w) (h.block p.block hp hn)

set_option maxHeartbeats 4000000 in
set_option maxRecDepth 100000 in
theorem fill_any (B : Nat) (f : Nat → Int) (A : Option Addr) (cap : Nat) (xs : List Rng) (c : Int) (w : World) (hU : U8B w B f) (h : RS w w.heap.size A cap xs) (hm : ∀ x ∈ xs, may x = true) (c0 : 0 ≤ c) (c1 : c ≤ 255) (hl : xs.length ≤ 1000000) :
    Calls Try.prog 44 #[.slice (some ⟨B, 0, none⟩) 4352 4352, .agg #[.slice A xs.length cap, .int .i64 c]] w fun e w' => e = .returned (.tuple #[]) ∧ U8B w' B (fun i => if hasR xs i then c else f i) ∧ But B w w' := by
  have H := Lib.hid h
  have HM := Lib.hid hm
  have HU := Lib.hid hU
  obtain ⟨n, hn⟩ : ∃ n, xs.length = n := ⟨_, rfl⟩
  have HN := Lib.hid hn
  rw [hn] at hl ⊢
  have hlt := hU.lt
  have hb0 := below_new w (.cells #[.slice A n cap, .int .i64 c] 72)
  have f1 : (w.alloc (.cells #[.slice A n cap, .int .i64 c] 72)).cell? ⟨w.heap.size, 1, none⟩ = some (.int .i64 c) := by simp
  have f0 : (w.alloc (.cells #[.slice A n cap, .int .i64 c] 72)).cell? ⟨w.heap.size, 0, none⟩ = some (.slice A n cap) := by simp
  have hz : w.heap.size < (w.alloc (.cells #[.slice A n cap, .int .i64 c] 72)).heap.size := by simp
  generalize hW : w.alloc (.cells #[.slice A n cap, .int .i64 c] 72) = W0 at *
  generalize hE : w.heap.size = E at *
  have HW := Lib.hid hW
  have HE := Lib.hid hE
  have HB := Lib.hid (And.intro hb0 (And.intro f1 (And.intro hz hlt)))
  clear h hm hU hn hb0 f1 hz hW hE hlt
  go_enter Try.func44, Try.ntmps44
  go_wp2_with fail
  rw [HE.out, HW.out]
  go_wp2_with fail
  go_loopw [10] (fun i wr => ∃ k : Nat, i = .int .i64 k ∧ k ≤ n ∧ U8B wr B (fun i => if hasR (xs.take k) i then c else f i) ∧ But B W0 wr) (fun i _ => n - (RowKit.intOf i).toNat)
  case atStart => exact ⟨0, rfl, Nat.zero_le _, (HU.out.below (by rw [HE.out]; exact HB.out.1)).congr (fun i _ => rfl), But.refl _ _⟩
  case round =>
    obtain ⟨k, rfl, hk, hU, hb⟩ := hrel
    by_cases hlt : k < n
    · obtain ⟨x, hx⟩ : ∃ x, xs[k]? = some x := ⟨xs[k]'(by have := HN.out; omega), List.getElem?_eq_getElem _⟩
      obtain ⟨b, o, rfl, hbl, hRg⟩ := H.out.2.2.2 (by intro e; rw [e] at hx; simp at hx)
      have hbB := HU.out.apart hRg (by rintro rfl; simp at hx)
      obtain ⟨q1, q2⟩ := hRg k x hx
      have hm := (may_iff _).1 (HM.out x (List.mem_of_getElem? hx))
      have HX := Lib.hid hx
      have cellW : ∀ o' v, w.cell? ⟨b, o', none⟩ = some v → wr.cell? ⟨b, o', none⟩ = some v := fun o' v hv => by
        have hbE : b < E := hbl
        rw [hb.cell (p := ⟨b, o', none⟩) (by show b < W0.heap.size; have := HB.out.2.2.1; omega) hbB, HB.out.1.cell (p := ⟨b, o', none⟩) hbE]
        exact hv
      have p1 := cellW _ _ q1
      have p2 := cellW _ _ q2
      have hEc : wr.cell? ⟨E, 1, none⟩ = some (.int .i64 c) := by
        rw [hb.cell (p := ⟨E, 1, none⟩) HB.out.2.2.1 (by show E ≠ B; have := HB.out.2.2.2; omega)]
        exact HB.out.2.1
      clear cellW q1 q2 hRg hx
      obtain ⟨lo, hi⟩ := x
      obtain ⟨m1, m2, m3⟩ := hm
      simp only at m1 m2 m3 p1 p2
      obtain ⟨a, rfl⟩ := Int.eq_ofNat_of_zero_le m1
      obtain ⟨z, rfl⟩ := Int.eq_ofNat_of_zero_le (show 0 ≤ hi by omega)
      have i1 : (k : Int) < (n : Int) := by omega
      have hEl : E < wr.heap.size := by have := hb.size; have := HB.out.2.2.1; omega
      have hBl := hU.lt
      have hbx := below_new wr (.cells #[.int .i32 (a : Int), .int .i32 (z : Int)] 70)
      have r1 : (wr.alloc (.cells #[.int .i32 (a : Int), .int .i32 (z : Int)] 70)).cell? ⟨wr.heap.size, 1, none⟩ = some (.int .i32 (z : Int)) := by simp
      have r0 : (wr.alloc (.cells #[.int .i32 (a : Int), .int .i32 (z : Int)] 70)).cell? ⟨wr.heap.size, 0, none⟩ = some (.int .i32 (a : Int)) := by simp
      have rz : wr.heap.size < (wr.alloc (.cells #[.int .i32 (a : Int), .int .i32 (z : Int)] 70)).heap.size := by simp
      have hU2 := hU.below hbx
      have hE2 : (wr.alloc (.cells #[.int .i32 (a : Int), .int .i32 (z : Int)] 70)).cell? ⟨E, 1, none⟩ = some (.int .i64 c) := (hbx.cell (p := ⟨E, 1, none⟩) hEl).trans hEc
      have hbb := hb.trans (But.of_below (B := B) hbx)
      go_wp2_with fail
      generalize wr.alloc (.cells #[.int .i32 (a : Int), .int .i32 (z : Int)] 70) = W2 at *
      generalize wr.heap.size = R at *
      have HH := Lib.hid (And.intro hU2 (And.intro hE2 (And.intro r1 (And.intro rz (And.intro hbb (And.intro hEl hBl))))))
      clear hU hb p1 p2 hEc hbx hU2 hE2 hbb r1 rz hEl hBl
      go_wp2_with fail
      go_loopw [6] (fun i wr => ∃ r : Nat, i = .int .i32 (r : Int) ∧ a ≤ r ∧ r ≤ z + 1 ∧ U8B wr B (fun i => if a ≤ i ∧ i < r then c else if hasR (xs.take k) i then c else f i) ∧ But B W2 wr) (fun i _ => z + 1 - (RowKit.intOf i).toNat)
      case atStart => exact ⟨a, rfl, Nat.le_refl _, by omega, HH.out.1.congr (fun i _ => (if_neg (by omega)).symm), But.refl _ _⟩
      case round =>
        obtain ⟨r, rfl, ra, rz, hU, hb⟩ := hrel
        have g1 : wr.cell? ⟨R, 1, none⟩ = some (.int .i32 (z : Int)) := (hb.cell (p := ⟨R, 1, none⟩) HH.out.2.2.2.1 (by show R ≠ B; have := HH.out.2.2.2.2.2.2; omega)).trans HH.out.2.2.1
        have g2 : wr.cell? ⟨E, 1, none⟩ = some (.int .i64 c) := (hb.cell (p := ⟨E, 1, none⟩) (by show E < W2.heap.size; have := HH.out.2.2.2.2.2.1; have := HH.out.2.2.2.1; omega) (by show E ≠ B; have := HB.out.2.2.2; omega)).trans HH.out.2.1
        by_cases hrz : r ≤ z
        · have i2 : (r : Int) ≤ (z : Int) := by omega
          have i3 : (z : Int) ≤ 1114111 := m3
          have hrN : r < 1114112 := by omega
          obtain ⟨u1, u2⟩ := hU.cell hrN
          have e1 : r / 256 * 256 + r % 256 = r := by omega
          have j1 : (0 : Int) ≤ (r : Int) / 256 := by omega
          have j2 : (r : Int) / 256 < 4352 := by omega
          have j3 : (0 : Int) ≤ (r : Int) % 256 := by omega
          have j4 : (r : Int) % 256 < 256 := by omega
          have v1 : wr.cell? ⟨B, r / 256 * 256 + r % 256, none⟩ = some (.int .u8 (if a ≤ r ∧ r < r then c else if hasR (xs.take k) r then c else f r)) := by rw [e1]; exact u1
          have v2 : wr.frozen? ⟨B, r / 256 * 256 + r % 256, none⟩ = false := by rw [e1]; exact u2
          generalize (if a ≤ r ∧ r < r then c else if hasR (xs.take k) r then c else f r) = ov at v1
          have HUr := Lib.hid hU
          have HBr := Lib.hid hb
          have HE1 := Lib.hid e1
          clear u1 u2 e1 hU hb
          go_wp2_with fail
          go_region
          rw [HE1.out]
          have hU3 : U8B ((wr.setCell ⟨B, r, none⟩ (.int .u8 c)).drew) B (fun i => if a ≤ i ∧ i < r + 1 then c else if hasR (xs.take k) i then c else f i) :=
            (HUr.out.setCell hrN c).congr (fun i _ => by
              by_cases e : i = r
              · subst e
                rw [if_pos rfl, if_pos (by omega)]
              · rw [if_neg e]
                by_cases e2 : a ≤ i ∧ i < r
                · rw [if_pos e2, if_pos (by omega)]
                · have e3 : ¬ (a ≤ i ∧ i < r + 1) := by omega
                  rw [if_neg e2, if_neg e3])
          have hB3 := (HBr.out.trans (But.setCell wr r (.int .u8 c))).drew
          go_wp2
          go_roundw
          case rel => exact ⟨r + 1, by go_num, by omega, by omega, hU3, hB3⟩
          case measure => simp [RowKit.intOf]; omega
        · have hrz2 : r = z + 1 := by omega
          have i2 : (z : Int) < (r : Int) := by omega
          have d2 : decide ((r : Int) ≤ (z : Int)) = false := by simp; omega
          have hU3 : U8B wr B (fun i => if hasR (xs.take (k + 1)) i then c else f i) := hU.congr (fun i _ => by
            have e : hasR (xs.take (k + 1)) (i : Int) = (hasR (xs.take k) i || (decide ((a : Int) ≤ i) && decide ((i : Int) ≤ z))) := by
              rw [List.take_add_one, HX.out]
              simp [hasR]
            rw [e]
            by_cases c1 : a ≤ i ∧ i < r
            · rw [if_pos c1, if_pos (by simp; omega)]
            · rw [if_neg c1]
              have e2 : (decide ((a : Int) ≤ i) && decide ((i : Int) ≤ z)) = false := by
                rw [Bool.eq_false_iff]
                intro h
                simp at h
                omega
              rw [e2, Bool.or_false])
          have hB3 := HH.out.2.2.2.2.1.trans hb
          have HK := Lib.hid (And.intro hU3 hB3)
          clear hU hb hU3 hB3 hrz2 g2
          go_wp2
          go_roundw
          case rel => exact ⟨k + 1, by go_num, by omega, HK.out.1, HK.out.2⟩
          case measure => simp [RowKit.intOf]; omega
    · have hkn : k = n := by omega
      have e : xs.take k = xs := by rw [hkn, ← HN.out, List.take_length]
      rw [e] at hU
      have hBz : But B w wr := (But.of_below (by rw [HE.out]; exact HB.out.1)).trans hb
      have HK := Lib.hid (And.intro hU hBz)
      have i1 : (n : Int) ≤ (k : Int) := by omega
      have d1 : decide ((k : Int) < (n : Int)) = false := by simp; omega
      clear hU hb e hBz hkn hlt
      go_wp2
      go_end0
      exact ⟨rfl, HK.out.1, HK.out.2⟩
end Go.Proofs.Ytphhdkffnboboaa

namespace Go.Proofs.Ytphhdkffnboboaa
open Go.RowKit Go.Shelf
open Go.Lib Go.Great Go.Maps

theorem laidOut : laidOutB Try.prog = true := by kernel_rfl
theorem law84 : Keyed Try.prog 84 := Keyed.of_law (deep_law_laid laidOut (m := 3) (by decide) (of_decide_eq_true (by kernel_rfl)) (by kernel_rfl) (by kernel_rfl))

theorem mapM_some {α β : Type} (f : α → Option β) (g : α → β) : ∀ l : List α, (∀ x ∈ l, f x = some (g x)) → l.mapM f = some (l.map g) := by
  intro l
  induction l with
  | nil => intro _; rfl
  | cons x xs ih =>
    intro h
    rw [List.mapM_cons, h x List.mem_cons_self, ih fun y hy => h y (List.mem_cons_of_mem _ hy)]
    rfl
/-- A block's cells. -/
def blc (F : Nat → Int) (k : Nat) : List Value := (List.range 256).map fun j => Value.int .u8 (F (256 * k + j))
theorem blc_len (F : Nat → Int) (k : Nat) : (blc F k).length = 256 := by simp [blc]
theorem blc_get (F : Nat → Int) (k j : Nat) (hj : j < 256) : (blc F k)[j]? = some (.int .u8 (F (256 * k + j))) := by
  simp only [blc, List.getElem?_map, List.getElem?_range hj, Option.map_some]
def U8 (F : Nat → Int) : Prop := ∀ i, 0 ≤ F i ∧ F i ≤ 255
theorem key84 (F : Nat → Int) (hF : U8 F) (k : Nat) : ∃ kl, keyOf Try.prog 84 (.agg (blc F k).toArray) = some kl := by
  have hk : Try.prog.keyType 84 = true := by kernel_rfl
  have hc : Try.prog.cellsOf 84 = 256 := by kernel_rfl
  have hc5 : Try.prog.cellsOf 5 = 1 := by kernel_rfl
  have hs : ∃ d, Try.prog.types.size + 1 = d + 1 + 1 := ⟨161, by kernel_rfl⟩
  obtain ⟨d, hd⟩ := hs
  have hf : (Value.agg (blc F k).toArray).formed Try.prog 84 = true := by
    simp [Value.formed, Try.underlying84, hc, blc_len]
  have hl : Try.prog.keyLits (d + 1 + 1) 84 (blc F k) = some (((List.range 256).map fun i => [Lit.int .u8 (F (256 * k + i))]).flatten) := by
    unfold Program.keyLits
    simp only [Try.underlying84]
    rw [if_pos (by rw [blc_len, hc]), mapM_some _ (fun i => [Lit.int .u8 (F (256 * k + i))])]
    · rfl
    · intro i hi
      have hi := List.mem_range.1 hi
      have e : ((blc F k).drop (i * Try.prog.cellsOf 5)).take (Try.prog.cellsOf 5) = [.int .u8 (F (256 * k + i))] := by
        rw [hc5, Nat.mul_one]
        have := blc_get F k i hi
        rw [List.take_one, List.head?_drop, this]
        rfl
      have hw : (Lit.int .u8 (F (256 * k + i))).wf = true := by
        have := hF (256 * k + i)
        simp [Lit.wf, IntKind.min, IntKind.max, IntKind.signed, IntKind.bits]
        omega
      rw [e]
      unfold Program.keyLits
      simp only [Try.underlying5]
      rw [if_pos ⟨trivial, hw⟩]
  refine ⟨.string (keyBytes (((List.range 256).map fun i => [Lit.int .u8 (F (256 * k + i))]).flatten)), ?_⟩
  unfold keyOf
  simp only [Try.underlying84]
  rw [hk, hf, hd]
  simp only [Bool.and_self, if_true]
  show (Try.prog.keyLits (d + 1 + 1) 84 (blc F k)).map _ = _
  rw [hl]
  rfl
end Go.Proofs.Ytphhdkffnboboaa

namespace Go.Proofs.Ytphhdkffnboboaa
open Go.RowKit Go.Shelf
open Go.Lib Go.Great Go.Maps

theorem foldl_set (l : List Value) : ∀ (k : Nat) (cs : Array Value), k + l.length ≤ cs.size → (((l.zipIdx k).foldl (fun (cs : Array Value) (p : Value × Nat) => cs.setIfInBounds (0 + p.2) p.1) cs).size = cs.size ∧
    ∀ i, ((l.zipIdx k).foldl (fun (cs : Array Value) (p : Value × Nat) => cs.setIfInBounds (0 + p.2) p.1) cs)[i]? = if k ≤ i ∧ i < k + l.length then l[i - k]? else cs[i]?) := by
  induction l with
  | nil =>
    intro k cs _
    refine ⟨rfl, fun i => ?_⟩
    rw [if_neg (by simp)]
    rfl
  | cons x xs ih =>
    intro k cs h
    rw [List.length_cons] at h
    rw [List.zipIdx_cons, List.foldl_cons]
    obtain ⟨h1, h2⟩ := ih (k + 1) (cs.setIfInBounds (0 + k) x) (by simp; omega)
    refine ⟨by rw [h1]; simp, fun i => ?_⟩
    rw [h2 i, Array.getElem?_setIfInBounds, List.length_cons]
    by_cases c : i = k
    · subst c
      rw [if_neg (by omega), if_pos (by omega), if_pos (by omega), if_pos (by omega)]
      simp
    · by_cases c2 : k + 1 ≤ i ∧ i < k + 1 + xs.length
      · rw [if_pos c2, if_pos (by omega), show i - k = (i - (k + 1)) + 1 by omega]
        simp
      · rw [if_neg c2, if_neg (by omega), if_neg (by omega)]
theorem fill_one (bl : List Value) (cs : Array Value) (hl : bl.length = 256) (hc : cs.size = 256) : Instr.fill (fun i => some (i * 256, 256)) cs [(0, .agg bl.toArray)] = some bl.toArray := by
  have e : (Value.agg bl.toArray).cells = bl.toArray := rfl
  simp only [Instr.fill, e, List.size_toArray, hl, hc]
  rw [if_neg (by simp)]
  congr 1
  have hz : bl.toArray.zipIdx = (bl.zipIdx 0).toArray := by simp
  rw [hz, List.foldl_toArray]
  obtain ⟨h1, h2⟩ := foldl_set bl 0 cs (by omega)
  apply Array.ext_getElem?
  intro i
  have := h2 i
  simp only [Nat.zero_mul] at this ⊢
  rw [this]
  by_cases c : i < 256
  · rw [if_pos (by omega)]
    simp
  · rw [if_neg (by omega)]
    simp only [List.getElem?_toArray]
    rw [List.getElem?_eq_none (by omega), Array.getElem?_eq_none (by omega)]

theorem step_load84 {w : World} {ops : Array Oper} {o : Oper} {a : Act} {K : Act → World → Prop} {Q : Exit → Act → World → Prop} {E : Prop} (hgd : o.guard = none) (x : Operand) (ho : o.op = .load 84 x)
    (X : Nat) (bl : List Value) (hl : bl.length = 256) (hx : a.eval x = .pointer (some ⟨X, 0, none⟩)) (hX : w.heap[X]? = some (.cells bl.toArray 84 (0, 0)))
    (h : K (a.put o.dst (.agg bl.toArray)) w) : if Region.wanted o (yielded ops a.tmps) = true then Oper.wp Try.prog o a w K Q else E := by
  have hw : Region.wanted o (yielded ops a.tmps) = true := by simp [Region.wanted, hgd]
  rw [if_pos hw]
  have hi : (Try.prog.info? 84).map (·.size) = some 256 := by kernel_rfl
  exact wp_load_row 84 x ho X hx 84 bl.toArray (0, 0) (.array 256 5) hX Try.underlying84 rfl (by rw [hi]; simp [hl]) h
theorem Try.info84 : ∃ i z, Try.prog.info? 84 = some i ∧ i.zero = some z ∧ i.size = 256 ∧ i.bytes = 256 ∧ z.cells.size = 256 := by
  have h : (Try.prog.info? 84).map (fun i => (i.size, i.bytes, i.zero.map fun z => z.cells.size)) = some (256, 256, some 256) := by kernel_rfl
  cases hi : Try.prog.info? 84 with
  | none => rw [hi] at h; cases h
  | some i =>
    rw [hi] at h
    simp only [Option.map_some, Option.some.injEq, Prod.mk.injEq] at h
    obtain ⟨h1, h2, h3⟩ := h
    cases hz : i.zero with
    | none => rw [hz] at h3; cases h3
    | some z =>
      rw [hz] at h3
      simp only [Option.map_some, Option.some.injEq] at h3
      exact ⟨i, z, rfl, hz, h1, h2, h3⟩
theorem step_build84 {w : World} {ops : Array Oper} {o : Oper} {a : Act} {K : Act → World → Prop} {Q : Exit → Act → World → Prop} {E : Prop} (hgd : o.guard = none) (y : Operand) (ho : o.op = .buildSlice 75 1 #[(0, y)])
    (bl : List Value) (hl : bl.length = 256) (hy : a.eval y = .agg bl.toArray) (H : Nat) (hH : w.heap.size = H)
    (h : K (a.put o.dst (.slice (some ⟨H, 0, none⟩) 1 1)) (w.alloc (.cells bl.toArray 84))) : if Region.wanted o (yielded ops a.tmps) = true then Oper.wp Try.prog o a w K Q else E := by
  have hw : Region.wanted o (yielded ops a.tmps) = true := by simp [Region.wanted, hgd]
  rw [if_pos hw]
  subst hH
  obtain ⟨i, z, hi, hz, hs, _, hzs⟩ := Try.info84
  refine wp_buildSlice 75 84 1 _ ho bl.toArray i z Try.underlying75 hi hz (by rw [hs]; decide) (by rw [hs]; decide) ?_ h
  rw [hs]
  have e : (#[(0, y)].map fun (i, x) => (i, a.eval x)).toList = [(0, .agg bl.toArray)] := by simp [hy]
  rw [e]
  exact fill_one bl _ hl (by simp)

/-! ### alike -/
def sameB (F : Nat → Int) (k i : Nat) : Bool := (List.range 256).all fun j => F (256 * k + j) == F (256 * i + j)
theorem sameB_iff (F : Nat → Int) (k i : Nat) : sameB F k i = true ↔ blc F k = blc F i := by
  constructor
  · intro h
    unfold blc
    apply List.map_congr_left
    intro j hj
    have := List.all_eq_true.1 h j hj
    rw [eq_of_beq this]
  · intro h
    unfold sameB
    rw [List.all_eq_true]
    intro j hj
    have hj := List.mem_range.1 hj
    have h1 := blc_get F k j hj
    rw [h, blc_get F i j hj] at h1
    simp only [Option.some.injEq, Value.int.injEq, true_and] at h1
    simp [h1]
/-- The unlike ones among the first blocks. -/
def dd (F : Nat → Int) : Nat → List Nat
  | 0 => []
  | i + 1 => if (dd F i).any (fun k => sameB F k i) then dd F i else dd F i ++ [i]
/-- Which of them is like a block. -/
def rf (F : Nat → Int) (i t : Nat) : Nat := (dd F i).findIdx (fun k => sameB F k t)
theorem dd_len (F : Nat → Int) (i : Nat) : (dd F i).length ≤ i := by
  induction i with
  | zero => exact Nat.le_refl _
  | succ i ih =>
    unfold dd
    split
    · omega
    · simp; omega
theorem dd_has (F : Nat → Int) (i t : Nat) (h : t < i) : (dd F i).any (fun k => sameB F k t) = true := by
  induction i with
  | zero => omega
  | succ i ih =>
    unfold dd
    by_cases c : (dd F i).any (fun k => sameB F k i) = true
    · rw [if_pos c]
      by_cases c2 : t = i
      · subst c2; exact c
      · exact ih (by omega)
    · rw [if_neg c, List.any_append, Bool.or_eq_true]
      by_cases c2 : t = i
      · subst c2
        right
        simp [(sameB_iff F t t).2 rfl]
      · exact .inl (ih (by omega))
theorem rf_lt (F : Nat → Int) (i t : Nat) (h : (dd F i).any (fun k => sameB F k t) = true) : rf F i t < (dd F i).length := by
  unfold rf
  rw [List.findIdx_lt_length]
  simpa using h
theorem dd_succ (F : Nat → Int) (i : Nat) : dd F (i + 1) = if (dd F i).any (fun k => sameB F k i) then dd F i else dd F i ++ [i] := rfl
theorem rf_keep (F : Nat → Int) (i t : Nat) (h : (dd F i).any (fun k => sameB F k t) = true) : rf F (i + 1) t = rf F i t := by
  have hl := rf_lt F i t h
  unfold rf at hl ⊢
  rw [dd_succ]
  by_cases c : (dd F i).any (fun k => sameB F k i) = true
  · rw [if_pos c]
  · rw [if_neg c, List.findIdx_append, if_pos hl]
theorem rf_new (F : Nat → Int) (i t : Nat) (h : (dd F i).any (fun k => sameB F k t) = false) (hs : sameB F i t = true) (hn : (dd F i).any (fun k => sameB F k i) = false) : rf F (i + 1) t = (dd F i).length := by
  have hl : (dd F i).findIdx (fun k => sameB F k t) = (dd F i).length := by
    rw [List.findIdx_eq_length]
    intro x hx
    have := List.any_eq_false.1 h x hx
    simpa using this
  unfold rf
  rw [dd_succ, if_neg (by rw [hn]; simp), List.findIdx_append, if_neg (by omega)]
  simp [hs]
theorem rf_at (F : Nat → Int) (i t : Nat) (h : (dd F i).any (fun k => sameB F k t) = true) : ∃ k, (dd F i)[rf F i t]? = some k ∧ sameB F k t = true := by
  have hl := rf_lt F i t h
  refine ⟨(dd F i)[rf F i t], List.getElem?_eq_getElem hl, ?_⟩
  unfold rf at hl ⊢
  exact List.findIdx_getElem (w := hl)
end Go.Proofs.Ytphhdkffnboboaa

namespace Go.Proofs.Ytphhdkffnboboaa
open Go.RowKit Go.Shelf
open Go.Lib Go.Great Go.Maps

/-- A trie's block. -/
def TB (w : World) (T : Nat) (ov : Value) (g : Nat → Int) (S : Value) : Prop := ∃ cs : Array Value, w.heap[T]? = some (.cells cs 80 (0, 0)) ∧ cs.size = 4354 ∧ cs[0]? = some ov ∧ (∀ t, t < 4352 → cs[1 + t]? = some (.int .i64 (g t))) ∧ cs[4353]? = some S
theorem TB.lt {w : World} {T : Nat} {ov S : Value} {g : Nat → Int} (h : TB w T ov g S) : T < w.heap.size := by obtain ⟨_, h, _⟩ := h; exact (Array.getElem?_eq_some_iff.1 h).1
theorem TB.kept {w w' : World} {T : Nat} {ov S : Value} {g : Nat → Int} (h : TB w T ov g S) (he : w'.heap[T]? = w.heap[T]?) : TB w' T ov g S := by
  obtain ⟨cs, h1, h2⟩ := h
  exact ⟨cs, he.trans h1, h2⟩
theorem TB.other {w : World} {T : Nat} {ov S : Value} {g : Nat → Int} (h : TB w T ov g S) : w.cell? ⟨T, 0, none⟩ = some ov := by
  obtain ⟨cs, h1, h2, h3, h4, h5⟩ := h
  exact (cell_of_row w T 0 cs 80 (0, 0) h1).trans h3
theorem TB.slice {w : World} {T : Nat} {ov S : Value} {g : Nat → Int} (h : TB w T ov g S) : w.cell? ⟨T, 4353, none⟩ = some S ∧ w.frozen? ⟨T, 4353, none⟩ = false := by
  obtain ⟨cs, h1, h2, h3, h4, h5⟩ := h
  exact ⟨(cell_of_row w T 4353 cs 80 (0, 0) h1).trans h5, frozen_of_row w T 4353 cs 80 h1⟩
theorem TB.ref {w : World} {T : Nat} {ov S : Value} {g : Nat → Int} (h : TB w T ov g S) {t : Nat} (ht : t < 4352) : w.cell? ⟨T, 1 + t, none⟩ = some (.int .i64 (g t)) ∧ w.frozen? ⟨T, 1 + t, none⟩ = false := by
  obtain ⟨cs, h1, h2, h3, h4, h5⟩ := h
  exact ⟨(cell_of_row w T (1 + t) cs 80 (0, 0) h1).trans (h4 t ht), frozen_of_row w T (1 + t) cs 80 h1⟩
theorem TB.setS {w : World} {T : Nat} {ov S : Value} {g : Nat → Int} (h : TB w T ov g S) (S' : Value) : TB (w.setCell ⟨T, 4353, none⟩ S') T ov g S' := by
  obtain ⟨cs, h1, h2, h3, h4, h5⟩ := h
  refine ⟨cs.setIfInBounds 4353 S', heap_setCell_same w T 4353 cs 80 _ h1, by simpa using h2, ?_, fun t ht => ?_, ?_⟩
  · rw [Array.getElem?_setIfInBounds, if_neg (by omega)]; exact h3
  · rw [Array.getElem?_setIfInBounds, if_neg (by omega)]; exact h4 t ht
  · simp [h2]
theorem TB.setRef {w : World} {T : Nat} {ov S : Value} {g : Nat → Int} (h : TB w T ov g S) {j : Nat} (hj : j < 4352) (v : Int) : TB (w.setCell ⟨T, 1 + j, none⟩ (.int .i64 v)) T ov (fun t => if t = j then v else g t) S := by
  obtain ⟨cs, h1, h2, h3, h4, h5⟩ := h
  refine ⟨cs.setIfInBounds (1 + j) (.int .i64 v), heap_setCell_same w T (1 + j) cs 80 _ h1, by simpa using h2, ?_, fun t ht => ?_, ?_⟩
  · rw [Array.getElem?_setIfInBounds, if_neg (by omega)]; exact h3
  · rw [Array.getElem?_setIfInBounds]
    by_cases c : 1 + j = 1 + t
    · have e : t = j := by omega
      subst e
      simp [h2]
      omega
    · rw [if_neg c, h4 t ht]
      show _ = some (Value.int .i64 (if t = j then v else g t))
      rw [if_neg (by omega)]
  · rw [Array.getElem?_setIfInBounds, if_neg (by omega)]; exact h5
theorem TB.congr {w : World} {T : Nat} {ov S : Value} {g g' : Nat → Int} (h : TB w T ov g S) (e : ∀ i, i < 4352 → g i = g' i) : TB w T ov g' S := by
  obtain ⟨cs, h1, h2, h3, h4, h5⟩ := h
  exact ⟨cs, h1, h2, h3, fun t ht => by rw [h4 t ht, e t ht], h5⟩

/-- The key of each block. -/
def KL (F : Nat → Int) (kl : Nat → Lit) : Prop := ∀ k, keyOf Try.prog 84 (.agg (blc F k).toArray) = some (kl k)
theorem KL.ex (F : Nat → Int) (hF : U8 F) : ∃ kl, KL F kl := ⟨fun k => (key84 F hF k).choose, fun k => (key84 F hF k).choose_spec⟩
theorem KL.iff {F : Nat → Int} {kl : Nat → Lit} (h : KL F kl) (s t : Nat) : kl s = kl t ↔ blc F s = blc F t := by
  constructor
  · intro e
    have h1 := h s
    rw [e] at h1
    have := law84.inj h1 (h t)
    simpa using this
  · intro e
    have h1 := h s
    rw [e, h t] at h1
    exact (Option.some.inj h1).symm
theorem any_congr (F : Nat → Int) (l : List Nat) {s t : Nat} (e : blc F s = blc F t) : l.any (fun k => sameB F k s) = l.any (fun k => sameB F k t) := by
  congr 1
  funext k
  rw [Bool.eq_iff_iff, sameB_iff, sameB_iff, e]

/-- What the map of the blocks seen tells. -/
structure Seen {H : Type} (F : Nat → Int) (kl : Nat → Lit) (i : Nat) (D : DataW H) : Prop where
  has : ∀ t, Maps.has D (kl t) = (dd F i).any (fun k => sameB F k t)
  at_ : ∀ t, (dd F i).any (fun k => sameB F k t) = true → D.atKey (kl t) (.lit (.int .i64 0)) = .lit (.int .i64 (rf F i t : Nat))
theorem Seen.zero {H : Type} (F : Nat → Int) (kl : Nat → Lit) : Seen (H := H) F kl 0 (.map []) := ⟨fun _ => rfl, fun t h => by simp [dd] at h⟩
theorem Seen.old {H : Type} {F : Nat → Int} {kl : Nat → Lit} {i : Nat} {D : DataW H} (h : Seen F kl i D) (c : (dd F i).any (fun k => sameB F k i) = true) : Seen F kl (i + 1) D := by
  have e : dd F (i + 1) = dd F i := by rw [dd_succ, if_pos c]
  refine ⟨fun t => by rw [e]; exact h.has t, fun t ht => ?_⟩
  rw [e] at ht
  rw [rf_keep F i t ht]
  exact h.at_ t ht
theorem Seen.new {H : Type} {F : Nat → Int} {kl : Nat → Lit} {i : Nat} {D : DataW H} (h : Seen F kl i D) (hk : KL F kl) (hD : IsMap D) (c : (dd F i).any (fun k => sameB F k i) = false) : Seen F kl (i + 1) (D.put (kl i) (.lit (.int .i64 ((dd F i).length : Nat)))) := by
  have hkey := law84.key (hk i)
  have e : dd F (i + 1) = dd F i ++ [i] := by rw [dd_succ, if_neg (by rw [c]; simp)]
  refine ⟨fun t => ?_, fun t ht => ?_⟩
  · rw [e, List.any_append]
    by_cases q : kl t = kl i
    · rw [q, has_put_same hD hkey]
      have := (hk.iff t i).1 q
      simp [(sameB_iff F i t).2 this.symm]
    · rw [has_put_other q, h.has t]
      have : sameB F i t = false := by
        rw [Bool.eq_false_iff]
        intro hh
        exact q ((hk.iff t i).2 ((sameB_iff F i t).1 hh).symm)
      simp [this]
  · by_cases q : kl t = kl i
    · rw [q, atKey_put_same hD hkey]
      have hb := (hk.iff t i).1 q
      rw [rf_new F i t (by rw [any_congr F _ hb]; exact c) ((sameB_iff F i t).2 hb.symm) c]
    · rw [atKey_put_other q]
      have ho : (dd F i).any (fun k => sameB F k t) = true := by
        rw [e, List.any_append, Bool.or_eq_true] at ht
        rcases ht with ht | ht
        · exact ht
        · have : sameB F i t = true := by simpa using ht
          exact absurd ((hk.iff t i).2 ((sameB_iff F i t).1 this).symm) q
      rw [rf_keep F i t ho]
      exact h.at_ t ho
end Go.Proofs.Ytphhdkffnboboaa

