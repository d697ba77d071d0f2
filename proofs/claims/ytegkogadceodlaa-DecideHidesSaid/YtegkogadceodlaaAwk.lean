/-
  Contract: virgulelaw07.awake; the law DecideHides.
-/
import Derived.Test.YtegkogadceodlaaBrw
namespace Go.Proofs.Ytegkogadceodlaa
open Go.RowKit Go.Shelf Go.Lib Go.Sort

theorem leaf_nd (w : World) (B : Nat) (c : Int) (hc : i64 c) : Nd w B (.mk 0 c []) (.agg #[.int .i64 0, .int .i64 c, .slice none 0 0]) :=
  Nd_iff.2 ⟨show i64 0 by (unfold i64; omega), hc, none, 0, rfl, ⟨Nat.le_refl _, by unfold maxLen; omega, fun _ => rfl, fun hn => absurd rfl hn⟩⟩
theorem bs_lit (w : World) (xs : List Bool) (n : Nat) (hn : xs.length = n) (hn2 : n ≤ 1000) : BS (w.alloc (.cells (bL xs).toArray 4)) (w.alloc (.cells (bL xs).toArray 4)).heap.size xs (some ⟨w.heap.size, 0, none⟩) n := by
  refine ⟨by omega, by unfold maxLen; omega, fun _ => ⟨w.heap.size, 0, rfl, by simp, fun i x hx => ?_⟩⟩
  rw [Nat.zero_add]
  refine ((cells_new w (bL xs).toArray 4).cell i).trans ?_
  simp [bL, hx]
set_option maxRecDepth 100000 in
set_option maxHeartbeats 8000000 in
theorem awake_ok : AwakeOk := by
  intro w
  obtain ⟨W1, hW1⟩ : ∃ V, w.alloc (.cells #[.int .i64 0, .int .i64 1, .slice none 0 0, .int .i64 0, .int .i64 2, .slice none 0 0, .bool false] 68) = V := ⟨_, rfl⟩
  have b1 : Below w.heap.size w W1 := by rw [← hW1]; exact below_new _ _
  have x1 : Cells W1 w.heap.size 68 #[.int .i64 0, .int .i64 1, .slice none 0 0, .int .i64 0, .int .i64 2, .slice none 0 0, .bool false] := by rw [← hW1]; exact cells_new _ _ _
  have s1 : W1.heap.size = w.heap.size + 1 := by rw [← hW1]; simp
  obtain ⟨W2, hW2⟩ : ∃ V, W1.alloc (.cells #[.slice none 0 0, .slice none 0 0, .slice (some ⟨w.heap.size, 0, none⟩) 1 1] 57) = V := ⟨_, rfl⟩
  have b2 : Below W1.heap.size W1 W2 := by rw [← hW2]; exact below_new _ _
  have s2 : W2.heap.size = w.heap.size + 2 := by rw [← hW2]; simp [s1]
  obtain ⟨W3, hW3⟩ : ∃ V, W2.alloc (.cells #[.int .i64 2, .int .i64 1, .int .i64 2] 3) = V := ⟨_, rfl⟩
  have b3 : Below W2.heap.size W2 W3 := by rw [← hW3]; exact below_new _ _
  have x3 : Cells W3 W2.heap.size 3 #[.int .i64 2, .int .i64 1, .int .i64 2] := by rw [← hW3]; exact cells_new _ _ _
  have s3 : W3.heap.size = w.heap.size + 3 := by rw [← hW3]; simp [s2]
  have x13 := (x1.on b2).on b3
  have b13 := (b1.trans (b2.mono b1.size)).trans (b3.mono (by omega))
  have hru : RuV W3 W3.heap.size ⟨.mk 0 1 [], .mk 0 2 [], false⟩ (.agg #[.int .i64 0, .int .i64 1, .slice none 0 0, .int .i64 0, .int .i64 2, .slice none 0 0, .bool false]) :=
    ⟨none, 0, none, 0, rfl, leaf_nd _ _ _ (by unfold i64; omega), leaf_nd _ _ _ (by unfold i64; omega)⟩
  have hrs : RsAt W3 W3.heap.size tA.rs (some ⟨w.heap.size, 0, none⟩) 1 := by
    refine ⟨by decide, by unfold maxLen; omega, fun _ => ⟨w.heap.size, 0, rfl, by omega, fun i x hx => ?_⟩⟩
    match i, hx with
    | 0, hx =>
      simp [tA] at hx
      subst hx
      exact ⟨none, 0, none, 0, ⟨x13.cell 0, x13.cell 1, x13.cell 2, x13.cell 3, x13.cell 4, x13.cell 5, x13.cell 6⟩, hru⟩
    | i + 1, hx => simp [tA] at hx
  have hid : IS W3 W3.heap.size [2, 1, 2] (some ⟨W2.heap.size, 0, none⟩) 3 := by
    refine ⟨by decide, by unfold maxLen; omega, fun x hx => by unfold i64; simp at hx; omega, fun _ => ⟨W2.heap.size, 0, rfl, by omega, fun i x hx => ?_⟩⟩
    rw [Nat.zero_add]
    refine (x3.cell i).trans ?_
    match i, hx with
    | 0, hx => simp at hx; subst hx; rfl
    | 1, hx => simp at hx; subst hx; rfl
    | 2, hx => simp at hx; subst hx; rfl
    | i + 3, hx => simp at hx
  have hnil : ∀ W : World, IS W W.heap.size [] none 0 := fun W => ⟨Nat.le_refl _, by unfold maxLen; omega, fun x hx => by simp at hx, fun h => absurd rfl h⟩
  have CB := breaksA_any (.agg #[.slice none 0 0, .slice none 0 0, .slice (some ⟨w.heap.size, 0, none⟩) 1 1]) (some ⟨W2.heap.size, 0, none⟩) 3 W3 ⟨none, 0, none, 0, some ⟨w.heap.size, 0, none⟩, 1, rfl, hnil W3, hnil W3, hrs⟩ hid
  rw [s2] at CB
  have HW := Lib.hid (And.intro hW1 (And.intro hW2 (And.intro hW3 b13)))
  clear hW1 hW2 hW3 b1 b2 b3 x1 x3 x13 b13 hru hrs hid hnil
  go_enter Try.func25, Try.ntmps25
  go_wp2_with fail
  rw [HW.out.1, HW.out.2.1, HW.out.2.2.1]
  refine CB.mono ?_
  rintro e w4 ⟨A4, c4, rfl, hbs, hb4⟩
  clear CB
  have b4 := HW.out.2.2.2.trans (hb4.mono HW.out.2.2.2.size)
  obtain ⟨W5, hW5⟩ : ∃ V, w4.alloc (.cells #[.bool true, .bool true, .bool false, .bool true] 4) = V := ⟨_, rfl⟩
  have b5 : Below w4.heap.size w4 W5 := by rw [← hW5]; exact below_new _ _
  have hlit : BS W5 W5.heap.size [true, true, false, true] (some ⟨w4.heap.size, 0, none⟩) 4 := by rw [← hW5]; exact bs_lit w4 [true, true, false, true] 4 rfl (by omega)
  have CI := is_any [true, true, false, true] [true, true, false, true] A4 (some ⟨w4.heap.size, 0, none⟩) c4 4 W5 (hbs.on b5) hlit
  rw [decide_eq_true rfl] at CI
  have H5 := Lib.hid (And.intro hW5 (b4.trans (b5.mono b4.size)))
  clear hW5 b5 hlit hbs hb4 b4
  go_wp2_with fail
  rw [H5.out.1]
  refine CI.mono ?_
  rintro e w6 ⟨rfl, hb6⟩
  have H6 := Lib.hid (H5.out.2.trans (hb6.mono H5.out.2.size))
  clear hb6 CI
  go_wp2_with fail
  go_ret
  exact ⟨rfl, H6.out⟩
/-- The law, of any meaning and any list. -/
theorem hidesLaw (t : Tx) (v : Value) (ids : List Int) (A : Option Addr) (cap : Nat) (w : World) (h : TxV w w.heap.size t v) (hi : IS w w.heap.size ids A cap) :
    Calls Try.prog 8 #[v, .slice A ids.length cap] w fun e w' => e = .returned (.bool true) ∧ Below w.heap.size w w' := hides_law awake_ok t v ids A cap w h hi
end Go.Proofs.Ytegkogadceodlaa
