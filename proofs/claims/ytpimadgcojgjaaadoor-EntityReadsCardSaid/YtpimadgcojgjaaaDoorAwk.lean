/-
  Contract: virgulelaw17.awake.
-/
import Derived.Test.YtpimadgcojgjaaaDoorNbr
import Derived.Lib.SlBytesConst
import Derived.Lib.SmallJoins
namespace Go.Proofs.YtpimadgcojgjaaaDoor
open Go.RowKit Go.Shelf Go.Lib Go.Maps

theorem IS.at {w : World} {B : Nat} {xs : List Int} {A : Option Addr} {cap i : Nat} {x : Int} (h : IS w B xs A cap) (hx : xs[i]? = some x) : ∃ b o, A = some ⟨b, o, none⟩ ∧ b < B ∧ w.cell? ⟨b, o + i, none⟩ = some (.int .i64 x) := by
  obtain ⟨b, o, e, hb, hc⟩ := h.r (by rintro rfl; simp at hx)
  exact ⟨b, o, e, hb, hc i x hx⟩
theorem by_lit (w : World) (l : List Nat) (fr : Nat × Nat) (hl : ∀ x ∈ l, x < 256) (hn : l.length ≤ 100) : BY (w.alloc (.cells (u8C l).toArray 5 fr)) (w.alloc (.cells (u8C l).toArray 5 fr)).heap.size l (some ⟨w.heap.size, 0, none⟩) l.length :=
  ⟨Nat.le_refl _, by unfold maxLen; omega, fun e => (by cases e), hl, fun _ => ⟨w.heap.size, 0, rfl, by simp, fun i x hx => by
    rw [Nat.zero_add, World.cell?_alloc_mark w _ _ _ _]
    simp [u8C, hx]⟩⟩
set_option maxHeartbeats 4000000 in
set_option maxRecDepth 100000 in
theorem awake_any (w : World) (hm : MX w) : Calls Tryd.prog 24 #[] w fun r w' => r = .returned (.bool true) ∧ Below w.heap.size w w' := by
  have L0 : ∀ W : World, BY (W.alloc (.cells #[.int .u8 27, .int .u8 91, .int .u8 51, .int .u8 49, .int .u8 109] 5 (5, 6))) (W.alloc (.cells #[.int .u8 27, .int .u8 91, .int .u8 51, .int .u8 49, .int .u8 109] 5 (5, 6))).heap.size [27, 91, 51, 49, 109] (some ⟨W.heap.size, 0, none⟩) 5 := fun W => by_lit W [27, 91, 51, 49, 109] (5, 6) (by decide) (by decide)
  have C1 : ∀ g W, BY W W.heap.size [27, 91, 51, 49, 109] (some ⟨g, 0, none⟩) 5 → Calls Tryd.prog 25 #[.slice (some ⟨g, 0, none⟩) 5 5, .int .i64 0] W fun r w' => r = .returned (.agg #[.int .i64 5, .bool true, .bool false, .int .u8 109]) ∧ Below W.heap.size W w' := fun g W h => read_any [27, 91, 51, 49, 109] (some ⟨g, 0, none⟩) 5 0 W h
  have C2 : ∀ g W, BY W W.heap.size [27, 91, 51, 49, 109] (some ⟨g, 0, none⟩) 5 → MX W → Calls Tryd.prog 27 #[.slice (some ⟨g, 0, none⟩) 5 5, .int .i64 0] W (NumsOk W (some [31])) := fun g W h hm => numbers_any [27, 91, 51, 49, 109] (some ⟨g, 0, none⟩) 5 0 (by decide) W h hm
  have H := Lib.hid (And.intro L0 (And.intro C1 (And.intro C2 hm)))
  clear L0 C1 C2 hm
  have v1 : (convert 22 22 (.slice (some ⟨w.heap.size, 0, none⟩) 5 5)).run Tryd.prog (w.alloc (.cells #[.int .u8 27, .int .u8 91, .int .u8 51, .int .u8 49, .int .u8 109] 5)) = .ok (.slice (some ⟨w.heap.size, 0, none⟩) 5 5) (w.alloc (.cells #[.int .u8 27, .int .u8 91, .int .u8 51, .int .u8 49, .int .u8 109] 5 (5, 6))) := Lib.run_convert_bytes_const w 22 5 _ 5 5 Tryd.underlying22 Tryd.underlying5
  go_enter Tryd.func24, Tryd.ntmps24
  go_wp2_with fail
  refine (H.out.2.1 _ _ (H.out.1 w)).mono ?_
  rintro r w1 ⟨rfl, hb1⟩
  have b1 : Below w.heap.size w w1 := (below_new w _).trans (hb1.mono (by simp))
  have HB1 := Lib.hid b1
  have x1 : Cells (w1.alloc (.cells #[.int .i64 5, .bool true, .bool false, .int .u8 109] 42)) w1.heap.size 42 #[.int .i64 5, .bool true, .bool false, .int .u8 109] := cells_new _ _ _
  obtain ⟨W2, hW2⟩ : ∃ W, (w1.alloc (.cells #[.int .i64 5, .bool true, .bool false, .int .u8 109] 42)) = W := ⟨_, rfl⟩
  have b2 : Below w.heap.size w W2 := by rw [← hW2]; exact below_lit HB1.out _
  have z2 : W2.heap.size = w1.heap.size + 1 := by rw [← hW2]; simp
  rw [hW2] at x1
  have HX := Lib.hid (And.intro x1 (And.intro b2 z2))
  clear hb1 b1 v1 x1 b2 z2
  have v2 : (convert 22 22 (.slice (some ⟨W2.heap.size, 0, none⟩) 5 5)).run Tryd.prog (W2.alloc (.cells #[.int .u8 27, .int .u8 91, .int .u8 51, .int .u8 49, .int .u8 109] 5)) = .ok (.slice (some ⟨W2.heap.size, 0, none⟩) 5 5) (W2.alloc (.cells #[.int .u8 27, .int .u8 91, .int .u8 51, .int .u8 49, .int .u8 109] 5 (5, 6))) := Lib.run_convert_bytes_const W2 22 5 _ 5 5 Tryd.underlying22 Tryd.underlying5
  go_wp2_with fail
  refine (H.out.2.2.1 _ _ (H.out.1 W2) (H.out.2.2.2.on (below_lit HX.out.2.1 _))).mono ?_
  rintro r w4 ⟨v, rfl, ho, hb4⟩
  have b4 : Below W2.heap.size W2 w4 := (below_new W2 _).trans (hb4.mono (by simp))
  have x4 := HX.out.1.on b4
  have q0 := x4.cell 0
  have q1 := x4.cell 1
  have q2 := x4.cell 2
  have q3 := x4.cell 3
  simp at q0 q1 q2 q3
  obtain ⟨A, c, rfl, hI, _⟩ := ho.is (fun x hx => by simp [natI] at hx; subst hx; unfold i64; omega)
  obtain ⟨b, o, rfl, hbl, e0⟩ := hI.at (i := 0) (x := 31) rfl
  have e0 : w4.cell? ⟨b, o, none⟩ = some (.int .i64 31) := e0
  have HB4 := Lib.hid (HX.out.2.1.trans (b4.mono HX.out.2.1.size))
  dsimp only [natI, Option.getD, Option.isSome, List.map, List.length]
  clear hb4 b4 x4 hI hbl hW2 v2 ho
  go_wp2_with fail
  go_ret
  exact ⟨rfl, HB4.out⟩
end Go.Proofs.YtpimadgcojgjaaaDoor
