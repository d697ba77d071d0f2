/-
  Contracts: trie.fill.
-/
import Derived.BigRegion
import Derived.RegionTactic
import Derived.Great.Walk
import Derived.Laws.Rows
import Derived.Laws.Tables
import Derived.Test.YtphhdkffnboboaaMk
namespace Go.Proofs.Ytphhdkffnboboaa
open Go.RowKit Go.Shelf
open Go.Lib Go.Great

/-- All blocks: a row of bytes, told by a function. -/
def U8B (w : World) (B : Nat) (f : Nat → Int) : Prop := ∃ cs : Array Value, w.heap[B]? = some (.cells cs 84 (0, 0)) ∧ cs.size = 1114112 ∧ ∀ i, i < 1114112 → cs[i]? = some (.int .u8 (f i))
theorem U8B.lt {w : World} {B : Nat} {f : Nat → Int} (h : U8B w B f) : B < w.heap.size := by obtain ⟨_, h, _⟩ := h; exact (Array.getElem?_eq_some_iff.1 h).1
theorem U8B.cell {w : World} {B : Nat} {f : Nat → Int} (h : U8B w B f) {i : Nat} (hi : i < 1114112) : w.cell? ⟨B, i, none⟩ = some (.int .u8 (f i)) ∧ w.frozen? ⟨B, i, none⟩ = false := by
  obtain ⟨cs, h1, h2, h3⟩ := h
  exact ⟨(cell_of_row w B i cs 84 (0, 0) h1).trans (h3 i hi), frozen_of_row w B i cs 84 h1⟩
theorem U8B.kept {w w' : World} {B : Nat} {f : Nat → Int} (h : U8B w B f) (he : w'.heap[B]? = w.heap[B]?) : U8B w' B f := by
  obtain ⟨cs, h1, h2⟩ := h
  exact ⟨cs, he.trans h1, h2⟩
theorem U8B.below {w w' : World} {B : Nat} {f : Nat → Int} (h : U8B w B f) (hb : Below w.heap.size w w') : U8B w' B f := h.kept (hb.block B h.lt)
theorem U8B.setCell {w : World} {B : Nat} {f : Nat → Int} (h : U8B w B f) {j : Nat} (_hj : j < 1114112) (v : Int) : U8B (w.setCell ⟨B, j, none⟩ (.int .u8 v)) B (fun i => if i = j then v else f i) := by
  obtain ⟨cs, h1, h2, h3⟩ := h
  refine ⟨cs.setIfInBounds j (.int .u8 v), heap_setCell_same w B j cs 84 _ h1, by simpa using h2, fun i hi => ?_⟩
  rw [Array.getElem?_setIfInBounds]
  by_cases c : j = i
  · subst c
    simp [h2, hi]
  · rw [if_neg c]
    show cs[i]? = some (.int .u8 (if i = j then v else f i))
    rw [if_neg (fun e => c e.symm)]
    exact h3 i hi
theorem U8B.congr {w : World} {B : Nat} {f g : Nat → Int} (h : U8B w B f) (e : ∀ i, i < 1114112 → f i = g i) : U8B w B g := by
  obtain ⟨cs, h1, h2, h3⟩ := h
  exact ⟨cs, h1, h2, fun i hi => by rw [h3 i hi, e i hi]⟩
/-- Ranges lie in another block. -/
theorem U8B.apart {w : World} {B b o : Nat} {f : Nat → Int} {xs : List Rng} (h : U8B w B f) (hR : RgAt w b o xs) (hn : xs ≠ []) : b ≠ B := by
  rintro rfl
  obtain ⟨cs, h1, h2, h3⟩ := h
  obtain ⟨x, hx⟩ : ∃ x, xs[0]? = some x := ⟨xs[0]'(List.length_pos_iff.2 hn), List.getElem?_eq_getElem _⟩
  have hc := (hR 0 x hx).1
  rw [cell_of_row w b _ cs 84 (0, 0) h1] at hc
  have hlt := (Array.getElem?_eq_some_iff.1 hc).1
  rw [h3 _ (by omega)] at hc
  cases hc

/-- What was there stays, but for one block. -/
structure But (B : Nat) (w w' : World) : Prop where
  os : w'.os = w.os
  tape : w'.tape = w.tape
  output : w'.output = w.output
  size : w.heap.size ≤ w'.heap.size
  block : ∀ k, k < w.heap.size → k ≠ B → w'.heap[k]? = w.heap[k]?
theorem But.refl (B : Nat) (w : World) : But B w w := ⟨rfl, rfl, rfl, Nat.le_refl _, fun _ _ _ => rfl⟩
theorem But.trans {B : Nat} {a b c : World} (h : But B a b) (k : But B b c) : But B a c :=
  ⟨k.os.trans h.os, k.tape.trans h.tape, k.output.trans h.output, Nat.le_trans h.size k.size, fun i hi hn => (k.block i (Nat.lt_of_lt_of_le hi h.size) hn).trans (h.block i hi hn)⟩
theorem But.of_below {B : Nat} {w w' : World} (h : Below w.heap.size w w') : But B w w' := ⟨h.os, h.tape, h.output, h.size, fun k hk _ => h.block k hk⟩
theorem But.drew {B : Nat} {a w : World} (h : But B a w) : But B a w.drew := ⟨h.os, h.tape, h.output, h.size, h.block⟩
theorem But.setCell {B : Nat} (w : World) (j : Nat) (v : Value) : But B w (w.setCell ⟨B, j, none⟩ v) :=
  ⟨rfl, rfl, rfl, by simp [World.setCell], fun k _ hn => Below.heap_setCell _ _ _ _ hn⟩
theorem But.cell {B : Nat} {w w' : World} (h : But B w w') {p : Addr} (hp : p.block < w.heap.size) (hn : p.block ≠ B) : w'.cell? p = w.cell? p := World.cell?_of_block (w := w) (h.block p.block hp hn)

set_option maxHeartbeats 4000000 in
set_option maxRecDepth 100000 in
theorem fill_any (B : Nat) (f : Nat → Int) (A : Option Addr) (cap : Nat) (xs : List Rng) (c : Int) (w : World) (hU : U8B w B f) (h : RS w w.heap.size A cap xs) (hm : ∀ x ∈ xs, may x = true) (c0 : 0 ≤ c) (c1 : c ≤ 255) (hl : xs.length ≤ 1000000) :
    Calls Try.prog 44 #[.slice (some ⟨B, 0, none⟩) 4352 4352, .agg #[.slice A xs.length cap, .int .i64 c]] w fun e w' => e = .returned (.tuple #[]) ∧ U8B w' B (fun i => if hasR xs i then c else f i) ∧ But B w w' := by
  have H := Lib.hid h
  have HM := Lib.hid hm
  have HU := Lib.hid hU
  obtain ⟨n, hn⟩ : ∃ n, xs.length = n := ⟨_, rfl⟩
  have HN := Lib.hid hn
  rw [hn] at hl ⊢
  have hlt := hU.lt
  have hb0 := below_new w (.cells #[.slice A n cap, .int .i64 c] 72)
  have f1 : (w.alloc (.cells #[.slice A n cap, .int .i64 c] 72)).cell? ⟨w.heap.size, 1, none⟩ = some (.int .i64 c) := by simp
  have f0 : (w.alloc (.cells #[.slice A n cap, .int .i64 c] 72)).cell? ⟨w.heap.size, 0, none⟩ = some (.slice A n cap) := by simp
  have hz : w.heap.size < (w.alloc (.cells #[.slice A n cap, .int .i64 c] 72)).heap.size := by simp
  generalize hW : w.alloc (.cells #[.slice A n cap, .int .i64 c] 72) = W0 at *
  generalize hE : w.heap.size = E at *
  have HW := Lib.hid hW
  have HE := Lib.hid hE
  have HB := Lib.hid (And.intro hb0 (And.intro f1 (And.intro hz hlt)))
  clear h hm hU hn hb0 f1 hz hW hE hlt
  go_enter Try.func44, Try.ntmps44
  go_wp2_with fail
  rw [HE.out, HW.out]
  go_wp2_with fail
  go_loopw [10] (fun i wr => ∃ k : Nat, i = .int .i64 k ∧ k ≤ n ∧ U8B wr B (fun i => if hasR (xs.take k) i then c else f i) ∧ But B W0 wr) (fun i _ => n - (RowKit.intOf i).toNat)
  case atStart => exact ⟨0, rfl, Nat.zero_le _, (HU.out.below (by rw [HE.out]; exact HB.out.1)).congr (fun i _ => rfl), But.refl _ _⟩
  case round =>
    obtain ⟨k, rfl, hk, hU, hb⟩ := hrel
    by_cases hlt : k < n
    · obtain ⟨x, hx⟩ : ∃ x, xs[k]? = some x := ⟨xs[k]'(by have := HN.out; omega), List.getElem?_eq_getElem _⟩
      obtain ⟨b, o, rfl, hbl, hRg⟩ := H.out.2.2.2 (by intro e; rw [e] at hx; simp at hx)
      have hbB := HU.out.apart hRg (by rintro rfl; simp at hx)
      obtain ⟨q1, q2⟩ := hRg k x hx
      have hm := (may_iff _).1 (HM.out x (List.mem_of_getElem? hx))
      have HX := Lib.hid hx
      have cellW : ∀ o' v, w.cell? ⟨b, o', none⟩ = some v → wr.cell? ⟨b, o', none⟩ = some v := fun o' v hv => by
        have hbE : b < E := hbl
        rw [hb.cell (p := ⟨b, o', none⟩) (by show b < W0.heap.size; have := HB.out.2.2.1; omega) hbB, HB.out.1.cell (p := ⟨b, o', none⟩) hbE]
        exact hv
      have p1 := cellW _ _ q1
      have p2 := cellW _ _ q2
      have hEc : wr.cell? ⟨E, 1, none⟩ = some (.int .i64 c) := by
        rw [hb.cell (p := ⟨E, 1, none⟩) HB.out.2.2.1 (by show E ≠ B; have := HB.out.2.2.2; omega)]
        exact HB.out.2.1
      clear cellW q1 q2 hRg hx
      obtain ⟨lo, hi⟩ := x
      obtain ⟨m1, m2, m3⟩ := hm
      simp only at m1 m2 m3 p1 p2
      obtain ⟨a, rfl⟩ := Int.eq_ofNat_of_zero_le m1
      obtain ⟨z, rfl⟩ := Int.eq_ofNat_of_zero_le (show 0 ≤ hi by omega)
      have i1 : (k : Int) < (n : Int) := by omega
      have hEl : E < wr.heap.size := by have := hb.size; have := HB.out.2.2.1; omega
      have hBl := hU.lt
      have hbx := below_new wr (.cells #[.int .i32 (a : Int), .int .i32 (z : Int)] 70)
      have r1 : (wr.alloc (.cells #[.int .i32 (a : Int), .int .i32 (z : Int)] 70)).cell? ⟨wr.heap.size, 1, none⟩ = some (.int .i32 (z : Int)) := by simp
      have r0 : (wr.alloc (.cells #[.int .i32 (a : Int), .int .i32 (z : Int)] 70)).cell? ⟨wr.heap.size, 0, none⟩ = some (.int .i32 (a : Int)) := by simp
      have rz : wr.heap.size < (wr.alloc (.cells #[.int .i32 (a : Int), .int .i32 (z : Int)] 70)).heap.size := by simp
      have hU2 := hU.below hbx
      have hE2 : (wr.alloc (.cells #[.int .i32 (a : Int), .int .i32 (z : Int)] 70)).cell? ⟨E, 1, none⟩ = some (.int .i64 c) := (hbx.cell (p := ⟨E, 1, none⟩) hEl).trans hEc
      have hbb := hb.trans (But.of_below (B := B) hbx)
      go_wp2_with fail
      generalize wr.alloc (.cells #[.int .i32 (a : Int), .int .i32 (z : Int)] 70) = W2 at *
      generalize wr.heap.size = R at *
      have HH := Lib.hid (And.intro hU2 (And.intro hE2 (And.intro r1 (And.intro rz (And.intro hbb (And.intro hEl hBl))))))
      clear hU hb p1 p2 hEc hbx hU2 hE2 hbb r1 rz hEl hBl
      go_wp2_with fail
      go_loopw [6] (fun i wr => ∃ r : Nat, i = .int .i32 (r : Int) ∧ a ≤ r ∧ r ≤ z + 1 ∧ U8B wr B (fun i => if a ≤ i ∧ i < r then c else if hasR (xs.take k) i then c else f i) ∧ But B W2 wr) (fun i _ => z + 1 - (RowKit.intOf i).toNat)
      case atStart => exact ⟨a, rfl, Nat.le_refl _, by omega, HH.out.1.congr (fun i _ => (if_neg (by omega)).symm), But.refl _ _⟩
      case round =>
        obtain ⟨r, rfl, ra, rz, hU, hb⟩ := hrel
        have g1 : wr.cell? ⟨R, 1, none⟩ = some (.int .i32 (z : Int)) := (hb.cell (p := ⟨R, 1, none⟩) HH.out.2.2.2.1 (by show R ≠ B; have := HH.out.2.2.2.2.2.2; omega)).trans HH.out.2.2.1
        have g2 : wr.cell? ⟨E, 1, none⟩ = some (.int .i64 c) := (hb.cell (p := ⟨E, 1, none⟩) (by show E < W2.heap.size; have := HH.out.2.2.2.2.2.1; have := HH.out.2.2.2.1; omega) (by show E ≠ B; have := HB.out.2.2.2; omega)).trans HH.out.2.1
        by_cases hrz : r ≤ z
        · have i2 : (r : Int) ≤ (z : Int) := by omega
          have i3 : (z : Int) ≤ 1114111 := m3
          have hrN : r < 1114112 := by omega
          obtain ⟨u1, u2⟩ := hU.cell hrN
          have e1 : r / 256 * 256 + r % 256 = r := by omega
          have j1 : (0 : Int) ≤ (r : Int) / 256 := by omega
          have j2 : (r : Int) / 256 < 4352 := by omega
          have j3 : (0 : Int) ≤ (r : Int) % 256 := by omega
          have j4 : (r : Int) % 256 < 256 := by omega
          have v1 : wr.cell? ⟨B, r / 256 * 256 + r % 256, none⟩ = some (.int .u8 (if a ≤ r ∧ r < r then c else if hasR (xs.take k) r then c else f r)) := by rw [e1]; exact u1
          have v2 : wr.frozen? ⟨B, r / 256 * 256 + r % 256, none⟩ = false := by rw [e1]; exact u2
          generalize (if a ≤ r ∧ r < r then c else if hasR (xs.take k) r then c else f r) = ov at v1
          have HUr := Lib.hid hU
          have HBr := Lib.hid hb
          have HE1 := Lib.hid e1
          clear u1 u2 e1 hU hb
          go_wp2_with fail
          go_region
          rw [HE1.out]
          have hU3 : U8B ((wr.setCell ⟨B, r, none⟩ (.int .u8 c)).drew) B (fun i => if a ≤ i ∧ i < r + 1 then c else if hasR (xs.take k) i then c else f i) :=
            (HUr.out.setCell hrN c).congr (fun i _ => by
              by_cases e : i = r
              · subst e
                rw [if_pos rfl, if_pos (by omega)]
              · rw [if_neg e]
                by_cases e2 : a ≤ i ∧ i < r
                · rw [if_pos e2, if_pos (by omega)]
                · have e3 : ¬ (a ≤ i ∧ i < r + 1) := by omega
                  rw [if_neg e2, if_neg e3])
          have hB3 := (HBr.out.trans (But.setCell wr r (.int .u8 c))).drew
          go_wp2
          go_roundw
          case rel => exact ⟨r + 1, by go_num, by omega, by omega, hU3, hB3⟩
          case measure => simp [RowKit.intOf]; omega
        · have hrz2 : r = z + 1 := by omega
          have i2 : (z : Int) < (r : Int) := by omega
          have d2 : decide ((r : Int) ≤ (z : Int)) = false := by simp; omega
          have hU3 : U8B wr B (fun i => if hasR (xs.take (k + 1)) i then c else f i) := hU.congr (fun i _ => by
            have e : hasR (xs.take (k + 1)) (i : Int) = (hasR (xs.take k) i || (decide ((a : Int) ≤ i) && decide ((i : Int) ≤ z))) := by
              rw [List.take_add_one, HX.out]
              simp [hasR]
            rw [e]
            by_cases c1 : a ≤ i ∧ i < r
            · rw [if_pos c1, if_pos (by simp; omega)]
            · rw [if_neg c1]
              have e2 : (decide ((a : Int) ≤ i) && decide ((i : Int) ≤ z)) = false := by
                rw [Bool.eq_false_iff]
                intro h
                simp at h
                omega
              rw [e2, Bool.or_false])
          have hB3 := HH.out.2.2.2.2.1.trans hb
          have HK := Lib.hid (And.intro hU3 hB3)
          clear hU hb hU3 hB3 hrz2 g2
          go_wp2
          go_roundw
          case rel => exact ⟨k + 1, by go_num, by omega, HK.out.1, HK.out.2⟩
          case measure => simp [RowKit.intOf]; omega
    · have hkn : k = n := by omega
      have e : xs.take k = xs := by rw [hkn, ← HN.out, List.take_length]
      rw [e] at hU
      have hBz : But B w wr := (But.of_below (by rw [HE.out]; exact HB.out.1)).trans hb
      have HK := Lib.hid (And.intro hU hBz)
      have i1 : (n : Int) ≤ (k : Int) := by omega
      have d1 : decide ((k : Int) < (n : Int)) = false := by simp; omega
      clear hU hb e hBz hkn hlt
      go_wp2
      go_end0
      exact ⟨rfl, HK.out.1, HK.out.2⟩
end Go.Proofs.Ytphhdkffnboboaa
