/-
  Contracts: strconv.FormatInt at base 16.
-/
import Derived.Laws.BitsAllLaws
import Derived.Laws.IdiomStrings
import Derived.Test.YtpimadgcojgjaaaDoorSNx
import Derived.Test.YtpimadgcojgjaaaDoorBase
namespace Go.Proofs.YtpimadgcojgjaaaDoor.S
open Go.RowKit Go.Shelf
open Go.Lib

/-- The one place of the table that base 16 asks. -/
def TZ (w : World) : Prop := w.cell? ⟨5, 15, none⟩ = some (.int .u8 4) ∧ 6 ≤ w.heap.size
theorem TZ.below {w w' : World} (h : TZ w) (hb : Below w.heap.size w w') : TZ w' :=
  ⟨(hb.cell (p := ⟨5, 15, none⟩) (by show 5 < w.heap.size; have := h.2; omega)).trans h.1, Nat.le_trans h.2 hb.size⟩

theorem tz64_any (w : World) (h : TZ w) : Calls Tryd.prog 105 #[.int .u64 16] w fun e w' => e = .returned (.int .i64 4) ∧ w' = w := by
  have q := h.1
  have e1 : IntKind.u64.wrap (-16) = 18446744073709551600 := by decide
  have e2 : bits .and .u64 16 18446744073709551600 = 16 := by
    have := u64_and_nat 16 18446744073709551600 (by decide) (by decide)
    exact this.trans (by decide +kernel)
  have e3 : IntKind.u64.wrap (16 * 285870213051353865) = 4573923408821661840 := by decide
  go_enter Tryd.func105, Tryd.ntmps105
  go_wp2
  go_ret
  exact ⟨rfl, rfl⟩
theorem tz_any (w : World) (h : TZ w) : Calls Tryd.prog 91 #[.int .u64 16] w fun e w' => e = .returned (.int .i64 4) ∧ w' = w := by
  have C := Lib.hid (tz64_any w h)
  go_enter Tryd.func91, Tryd.ntmps91
  go_wp2_with fail
  refine C.out.mono ?_
  rintro e w1 ⟨rfl, rfl⟩
  go_wp2
  go_ret
  exact ⟨rfl, rfl⟩
theorem pow2_any (w : World) : Calls Tryd.prog 90 #[.int .i64 16] w fun e w' => e = .returned (.bool true) ∧ w' = w := by
  go_enter Tryd.func90, Tryd.ntmps90
  go_wp2
  go_ret
  exact ⟨rfl, rfl⟩

def hexTab : ByteArray := ⟨#[48, 49, 50, 51, 52, 53, 54, 55, 56, 57, 97, 98, 99, 100, 101, 102, 103, 104, 105, 106, 107, 108, 109, 110, 111, 112, 113, 114, 115, 116, 117, 118, 119, 120, 121, 122]⟩
def hexC (d : Nat) : UInt8 := if h : d < 36 then hexTab[d]'h else 0
theorem hexC_eq (d : Nat) (h : d < 36) : hexTab[d]'h = hexC d := by unfold hexC; rw [dif_pos h]
/-- A number's digits, base 16. -/
def hexD (n : Nat) : List UInt8 := if n < 16 then [hexC n] else hexD (n / 16) ++ [hexC (n % 16)]
termination_by n
decreasing_by omega
theorem hexD_lt {n : Nat} (h : n < 16) : hexD n = [hexC n] := by rw [hexD, if_pos h]
theorem hexD_ge {n : Nat} (h : ¬ n < 16) : hexD n = hexD (n / 16) ++ [hexC (n % 16)] := by rw [hexD, if_neg h]

theorem zero164 : Tryd.zeroCells121 = Array.replicate 65 (.int .u8 0) := by kernel_rfl
/-- The array that the digits are written into, from its end on. -/
structure AR (w : World) (B : Nat) (p : Nat) (ds : List UInt8) : Prop where
  c : ∀ i, i < 65 → ∃ v, w.cell? ⟨B, i, none⟩ = some v
  f : ∀ i, w.frozen? ⟨B, i, none⟩ = false
  l : ds.length + p = 65
  d : ∀ j (h : j < ds.length), w.cell? ⟨B, p + j, none⟩ = some (.int .u8 (ds[j].toNat : Int))
theorem AR.start (w : World) : AR (w.alloc (.cells Tryd.zeroCells121 121)) w.heap.size 65 [] := by
  rw [zero164]
  refine ⟨fun i hi => ⟨.int .u8 0, ?_⟩, fun i => by simp, rfl, fun j h => by simp at h⟩
  have := Cells.cell (show Cells _ _ 121 _ from World.alloc_heap_new w (.cells (Array.replicate 65 (.int .u8 0)) 121)) i
  rw [this]
  simp [hi]
theorem AR.store {w : World} {B p : Nat} {ds : List UInt8} (h : AR w B (p + 1) ds) (d : UInt8) : AR (w.setCell ⟨B, p, none⟩ (.int .u8 (d.toNat : Int))) B p (d :: ds) := by
  obtain ⟨v, hv⟩ := h.c p (by have := h.l; omega)
  have hs := World.cell?_setCell_same' w ⟨B, p, none⟩ (.int .u8 (d.toNat : Int)) (by rw [hv]; rfl)
  have ho : ∀ i, i ≠ p → (w.setCell ⟨B, p, none⟩ (.int .u8 (d.toNat : Int))).cell? ⟨B, i, none⟩ = w.cell? ⟨B, i, none⟩ := fun i hi => World.cell?_setCell_other _ _ _ _ (by intro e; injection e with e1 e2; exact hi e2.symm)
  refine ⟨fun i hi => ?_, fun i => by rw [World.frozen?_setCell]; exact h.f i, by have := h.l; simp; omega, fun j hj => ?_⟩
  · by_cases c : i = p
    · subst c; exact ⟨_, hs⟩
    · rw [ho i c]; exact h.c i hi
  · cases j with
    | zero => exact hs
    | succ j =>
      rw [ho (p + (j + 1)) (by omega)]
      have := h.d j (by simpa using hj)
      rw [show p + (j + 1) = p + 1 + j by omega]
      exact this

theorem hq58 (m q : Nat) (c : 16 ≤ m) (hm : m < 16 ^ (q + 1 - 57)) (hp : 58 ≤ q + 1) : 58 ≤ q := by
  rcases Nat.lt_or_ge q 58 with h | h
  · have : q = 57 := by omega
    subst this
    simp at hm
    omega
  · exact h

set_option maxHeartbeats 2000000 in
set_option maxRecDepth 100000 in
theorem fb_any (n : Nat) (hn : n < 4294967296) (w : World) (h : TZ w) :
    Calls Tryd.prog 77 #[.slice none 0 0, .int .u64 n, .int .i64 16, .bool false, .bool false] w fun e w' => e = .returned (.tuple #[.slice none 0 0, .string ⟨(hexD n).toArray⟩]) ∧ Below w.heap.size w w' := by
  have HT := Lib.hid h
  clear h
  have C1 := Lib.hid pow2_any
  have C2 := Lib.hid tz_any
  have hb0 := below_new w (.cells Tryd.zeroCells121 121)
  have hA0 := AR.start w
  have HT1 := Lib.hid (HT.out.below hb0)
  have HB0 := Lib.hid hb0
  have HA0 := Lib.hid hA0
  clear hb0 hA0
  go_enter Tryd.func77, Tryd.ntmps77
  go_wp2_with fail
  refine (C1.out _).mono ?_
  rintro e w1 ⟨rfl, rfl⟩
  go_wp2_with fail
  refine (C2.out _ HT1.out).mono ?_
  rintro e w1 ⟨rfl, rfl⟩
  go_wp2_with fail
  go_loopw [1, 13] (fun u i wr => ∃ (m p : Nat) (ds : List UInt8), u = .int .u64 m ∧ i = .int .i64 p ∧ 58 ≤ p ∧ m < 16 ^ (p - 57) ∧ AR wr w.heap.size p ds ∧ hexD n = hexD m ++ ds ∧ Below w.heap.size w wr) (fun u _ _ => (RowKit.intOf u).toNat)
  case atStart => exact ⟨n, 65, [], rfl, rfl, by omega, by simpa using hn, HA0.out, by simp, HB0.out⟩
  case round =>
    obtain ⟨m, p, ds, rfl, rfl, hp, hm, hA, hD, hb⟩ := hrel
    have hpl : p ≤ 65 := by have := hA.l; omega
    have hm32 : m < 4294967296 := Nat.lt_of_lt_of_le hm (Nat.pow_le_pow_right (n := 16) (by omega) (show p - 57 ≤ 8 by omega))
    have hD := Lib.hid hD
    obtain ⟨q, rfl⟩ : ∃ q, p = q + 1 := ⟨p - 1, by omega⟩
    obtain ⟨v, hv⟩ := hA.c q (by omega)
    have hf := hA.f q
    have HA := Lib.hid hA
    have j0 : (0 : Int) ≤ (q : Int) := by omega
    have j1 : (q : Int) < 65 := by omega
    clear hA
    by_cases c : 16 ≤ m
    · have c1 : (16 : Int) ≤ (m : Int) := by omega
      have hand : bits .and .u64 (m : Int) 15 = ((m % 16 : Nat) : Int) := by
        have h2 : m &&& 15 = m % 16 := Nat.and_two_pow_sub_one_eq_mod m 4
        have h1 : bits .and .u64 (m : Int) 15 = ((m &&& 15 : Nat) : Int) := u64_and_nat m 15 (by omega) (by decide)
        rw [h1, h2]
      have k0 : (0 : Int) ≤ ((m % 16 : Nat) : Int) := by omega
      have k1 : ((m % 16 : Nat) : Int) < 16 := by omega
      have hE := Lib.hid (hexD_ge (n := m) (by omega))
      have hpow : m / 16 < 16 ^ (q - 57) := by
        rw [show q + 1 - 57 = q - 57 + 1 by have : 58 ≤ q := hq58 m q c hm hp; omega, Nat.pow_succ] at hm
        exact Nat.div_lt_of_lt_mul (by rw [Nat.mul_comm]; exact hm)
      have hq := hq58 m q c hm hp
      generalize hd : m % 16 = d at hand k0 k1 hE
      have HS := HA.out.store (hexC d)
      rw [← hexC_eq d (by omega)] at HS
      have hb2 := hb.setCell (p := ⟨w.heap.size, q, none⟩) (Nat.le_refl _) (.int .u8 ((hexTab[d]'(show d < 36 by omega)).toNat : Int))
      have HS := Lib.hid (And.intro HS hb2)
      clear hb hb2
      go_wp2_with fail
      go_roundw
      case rel => exact ⟨m / 16, q, hexC d :: ds, by rw [Int.natCast_ediv]; rfl, rfl, hq, hpow, by rw [← hexC_eq d (by omega)]; exact HS.out.1, by rw [hD.out, hE.out, List.append_assoc]; rfl, HS.out.2⟩
      case measure => simp [RowKit.intOf]; omega
    · have c1 : ¬ ((16 : Int) ≤ (m : Int)) := by omega
      have hE := Lib.hid (hexD_lt (n := m) (by omega))
      have k0 : (0 : Int) ≤ (m : Int) := by omega
      have k1 : (m : Int) < 16 := by omega
      have HS := HA.out.store (hexC m)
      have hl0 := HS.l
      rw [← hexC_eq m (by omega)] at HS
      have hb2 := hb.setCell (p := ⟨w.heap.size, q, none⟩) (Nat.le_refl _) (.int .u8 ((hexTab[m]'(show m < 36 by omega)).toNat : Int))
      have hsl : ∀ W, (Instr.sliceAt 121 (.pointer (some ⟨w.heap.size, 0, none⟩)) (some (.int .i64 (q : Int))) none none).run Tryd.prog W = .ok (.slice (some ⟨w.heap.size, q, none⟩) (65 - q) (65 - q)) W := fun W => by
        have hL : Tryd.prog.arrayLen 121 = 65 := by kernel_rfl
        have hz : (Go.sizeOf (Tryd.prog.elem 121)).run Tryd.prog W = .ok 1 W := by
          have : Tryd.prog.elem 121 = 5 := by kernel_rfl
          rw [this]
          exact Tryd.sizeOf5 W
        rw [run_sliceAt_array_l W 121 ⟨w.heap.size, 0, none⟩ (by kernel_rfl) .i64 q (by omega) (by rw [hL]; omega), hz, hL]
        simp only [Result.andThen, slicedAt, Int.toNat_natCast]
        rw [if_neg (by omega), Addr.add_lit]
        simp
      have hcv := run_convert_bytes_back (P := Tryd.prog) (wr.setCell ⟨w.heap.size, q, none⟩ (.int .u8 ((hexTab[m]'(show m < 36 by omega)).toNat : Int))) 22 9 5 ⟨w.heap.size, q, none⟩ (65 - q) (hexTab[m]'(show m < 36 by omega) :: ds) Tryd.underlying22 Tryd.underlying5 Tryd.underlying9 (fun j hj => by rw [Addr.add_lit]; exact HS.d j hj)
      rw [show (hexTab[m]'(show m < 36 by omega) :: ds).length = 65 - q by simp at hl0 ⊢; omega] at hcv
      have HS := Lib.hid (And.intro HS hb2)
      clear hb hb2 hl0
      unfold hexTab at hcv
      go_wp2_with fail
      go_ret2
      refine ⟨?_, HS.out.2⟩
      rw [hD.out, hE.out, ← hexC_eq m (by omega)]
      rfl
theorem fi84_any (n : Nat) (hn : n < 4294967296) (w : World) (h : TZ w) :
    Calls Tryd.prog 59 #[.int .i64 n, .int .i64 16] w fun e w' => e = .returned (.string ⟨(hexD n).toArray⟩) ∧ Below w.heap.size w w' := by
  have C := Lib.hid (fb_any n hn w h)
  have h0 : (0 : Int) ≤ (n : Int) := by omega
  have h1 : (n : Int) < 4294967296 := by omega
  have d : decide ((n : Int) < 0) = false := by simp
  clear hn h
  go_enter Tryd.func59, Tryd.ntmps59
  go_wp2_with fail
  refine C.out.mono ?_
  rintro e w1 ⟨rfl, hb⟩
  go_wp2
  go_ret
  exact ⟨rfl, hb⟩
theorem fi59_any (n : Nat) (hn : n < 4294967296) (w : World) (h : TZ w) :
    Calls Tryd.prog 42 #[.int .i64 n, .int .i64 16] w fun e w' => e = .returned (.string ⟨(hexD n).toArray⟩) ∧ Below w.heap.size w w' := by
  have C := Lib.hid (fi84_any n hn w h)
  clear hn h
  go_enter Tryd.func42, Tryd.ntmps42
  go_wp2_with fail
  refine C.out.mono ?_
  rintro e w1 ⟨rfl, hb⟩
  go_wp2
  go_ret
  exact ⟨rfl, hb⟩

end Go.Proofs.YtpimadgcojgjaaaDoor.S
