/-
  Contracts: math/bits.OnesCount64: some number up to 127; math/bits.TrailingZeros64.
-/
import Derived.Test.YtlbcicoppglgjaaDoorOnl
import Derived.Shelf.Spec.TrailingZeros
import Derived.Laws.Bits128
namespace Go.Proofs.YtlbcicoppglgjaaDoor
open Go.RowKit Go.Shelf Go.Lib Go.Great

theorem ones_le (X : Int) : ∃ r : Nat, Ending.returned (.int .i64 (bits .and .i64 X 127)) = .returned (.int .i64 (r : Int)) ∧ r ≤ 127 := by
  rw [i64_and127]
  exact ⟨(X % 128).toNat, by rw [Int.toNat_of_nonneg (by omega)], by omega⟩
set_option maxHeartbeats 4000000 in
set_option maxRecDepth 100000 in
theorem ones_any (x : Int) (w : World) : Calls Tryd.prog 52 #[.int .u64 x] w fun e w' => (∃ r : Nat, e = .returned (.int .i64 (r : Int)) ∧ r ≤ 127) ∧ w' = w := by
  go_enter Tryd.func52, Tryd.ntmps52
  go_wp2_with fail
  go_ret
  exact ⟨ones_le _, rfl⟩
/-- The table of math/bits. -/
def TZ (w : World) : Prop := TabAt 0 Lib.deBruijn64tab w
theorem TZ.block {w w' : World} (h : TZ w) (hb : w'.heap[0]? = w.heap[0]?) : TZ w' := fun j hj => (World.cell?_of_block (w := w) (w' := w') (a := ⟨0, j, none⟩) hb).trans (h j hj)
theorem TZ.lt {w : World} (h : TZ w) : 0 < w.heap.size := by
  have := h 0 (by decide)
  unfold World.cell? at this
  cases hb : w.heap[0]? with
  | none => simp [hb] at this
  | some x => exact (Array.getElem?_eq_some_iff.1 hb).1
theorem TZ.below {w w' : World} {B : Nat} (h : TZ w) (hb : Below B w w') (hB : 0 < B) : TZ w' := h.block (hb.block 0 hB)
theorem TZ.grown {w w' : World} {b : Nat} (h : TZ w) (hg : w.grownBy w' (some b)) (hB : 0 < b) : TZ w' := h.block (hg.block 0 h.lt (by simp; omega))
set_option maxHeartbeats 4000000 in
set_option maxRecDepth 100000 in
theorem tz_core (x k idx : Nat) (w : World) (hx0 : ((x : Int) == 0) = false)
    (key : IntKind.u64.wrap (bits BinOp.and IntKind.u64 (x : Int) (IntKind.u64.wrap (-(x : Int))) * 285870213051353865) / 288230376151711744 = (idx : Int))
    (hi : idx < 64) (hk : k < 64) (hcell : w.cell? ⟨0, idx, none⟩ = some (.int .u8 k)) :
    Calls Tryd.prog 45 #[.int .u64 x] w fun e w' => e = .returned (.int .i64 k) ∧ w' = w := by
  go_enter Tryd.func45, Tryd.ntmps45
  go_wp2_with (simp only [key])
  go_ret
  exact ⟨rfl, rfl⟩
theorem tz_any (x : Nat) (hx : x < 18446744073709551616) (h0 : x ≠ 0) (w : World) (hT : TZ w) :
    Calls Tryd.prog 45 #[.int .u64 x] w fun e w' => e = .returned (.int .i64 (Lib.ctz 64 x : Nat)) ∧ w' = w := by
  obtain ⟨hlow, hk⟩ := Lib.lowest_bit 64 x h0 hx
  obtain ⟨hi, htab⟩ := Lib.deBruijn64_at _ hk
  have hcell := hT _ hi
  rw [htab] at hcell
  exact tz_core x _ _ w (by simp; omega) (tz64_key x _ hx h0 hlow) hi hk hcell
theorem ctz_form (x : Nat) (hx : x < 18446744073709551616) (h0 : x ≠ 0) : ∃ q, x = 2 ^ Lib.ctz 64 x * (2 * q + 1) ∧ Lib.ctz 64 x < 64 := by
  obtain ⟨q, h1, h2⟩ := Lib.ctzFrom_spec 64 x (by omega) hx
  have e : Lib.ctz 64 x = Lib.ctzFrom 64 x := if_neg h0
  rw [e]
  exact ⟨q, h1, h2⟩
end Go.Proofs.YtlbcicoppglgjaaDoor
