/-
  Contracts: scalar.Put, virgulelaw01.awake.
-/
import Derived.Laws.IdiomStrings
import Derived.Laws.OwnMore
import Derived.Lib.RuneBytes
import Derived.Test.YtimiinnnmdcmhaaDoorAll
namespace Go.Proofs.YtimiinnnmdcmhaaDoor
open Go.RowKit Go.Shelf
open Go.Lib

/-- Bytes of the call's own. -/
def PutPost (l : List UInt8) (w : World) (e : Ending) (w' : World) : Prop :=
  ∃ g cap : Nat, e = .returned (.slice (some ⟨g, 0, none⟩) l.length cap) ∧ (∀ j (hj : j < l.length), w'.cell? ⟨g, j, none⟩ = some (.int .u8 (l[j].toNat : Int))) ∧ l.length ≤ cap ∧ cap ≤ maxLen ∧ g < w'.heap.size ∧ Below w.heap.size w w'

theorem ar_any (r : Int) (hr0 : -2147483648 ≤ r) (hr1 : r ≤ 2147483647) (w : World) : Calls Tryd.prog 57 #[.slice none 0 0, .int .i32 r] w (PutPost (encodeRune r) w) := by
  have c := Any.utf8_AppendRune_plain Tryd.lays242 (by kernel_rfl) w.heap.size (.slice none 0 0) 0 [] r hr0 hr1 w (World.ownsRow_nil _ _ _ _) (by omega) (Nat.le_refl _)
  refine Calls.mono c ?_
  rintro e w' ⟨v, rfl, hown, o, hg⟩
  have hl := encodeRuneZ_length r
  have hlen : (runeCells r).length = (encodeRune r).length := runeCells_length r
  have hl1 : 1 ≤ (encodeRune r).length := by unfold encodeRune; simpa using hl.1
  rw [List.nil_append, Nat.zero_add, hlen, ← byteCells_encodeRune] at hown
  have hb : Below w.heap.size w w' := ((Below.refl _ w).alloc (Nat.le_refl _) o).grown hg (by simp) (fun k e => by simp [Value.ownBlock] at e)
  rcases hown.2 with ⟨_, h0⟩ | ⟨g, cap, cur, rfl, hgb, hh, hnc, hcm, _⟩
  · omega
  · refine ⟨g, cap, rfl, fun j hj => ?_, hnc, ?_, (Array.getElem?_eq_some_iff.1 hh).1, hb⟩
    · have := hown.cellAt j (by omega)
      rw [this]
      simp [byteCells, hj]
    · exact hcm

set_option maxHeartbeats 1000000 in
/-- scalar.Put. -/
theorem put_any (r : Int) (hr0 : -2147483648 ≤ r) (hr1 : r ≤ 2147483647) (w : World) : Calls Tryd.prog 22 #[.int .i32 r] w (PutPost (encodeRune r) w) := by
  have C := Lib.hid (ar_any r hr0 hr1 w)
  go_enter Tryd.func22, Tryd.ntmps22
  go_wp2_with fail
  refine C.out.mono ?_
  rintro e w' ⟨g, cap, rfl, hc, h1, h2, h3, hb⟩
  have H := Lib.hid (And.intro hc (And.intro h1 (And.intro h2 (And.intro h3 hb))))
  clear hc h1 h2 h3 hb
  go_wp2
  go_ret
  exact ⟨g, cap, rfl, H.out.1, H.out.2.1, H.out.2.2.1, H.out.2.2.2.1, H.out.2.2.2.2⟩

theorem add0 (g j : Nat) : (Addr.mk g 0 none).add j = ⟨g, j, none⟩ := by
  unfold Addr.add
  by_cases h : j = 0 <;> simp [h]

def ex5 (j : Nat) : Nat := [97, 240, 159, 152, 98].getD j 0
theorem rest5 : rest 5 ex5 0 = [(97, 0, 1, true), (65533, 1, 3, false), (98, 4, 1, true)] := by decide +kernel

set_option maxHeartbeats 2000000 in
set_option maxRecDepth 100000 in
/-- awake: the document's example. -/
theorem awake_any (w : World) (hT : Tabs w) : Calls Tryd.prog 13 #[] w fun e w' => e = .returned (.bool true) ∧ Below w.heap.size w w' := by
  have hbs : Bs (w.alloc (.cells #[.int .u8 97, .int .u8 240, .int .u8 159, .int .u8 152, .int .u8 98] 5)) w.heap.size 0 5 ex5 := by
    intro j hj
    obtain rfl | rfl | rfl | rfl | rfl : j = 0 ∨ j = 1 ∨ j = 2 ∨ j = 3 ∨ j = 4 := by omega
    all_goals exact ⟨by simp [ex5], by decide⟩
  have C1 := (callsIn_wide (n := 8)).1 (all_in 8 (by omega) (some ⟨w.heap.size, 0, none⟩) 5 5 ex5 _ (hT.alloc _) ⟨Nat.le_refl _, by unfold maxLen; omega, fun _ => ⟨w.heap.size, 0, rfl, by simp, hbs⟩⟩ (by omega))
  have C2 := fun W => put_any 128512 (by omega) (by omega) W
  have el : encodeRune 128512 = [240, 159, 152, 128] := by decide +kernel
  have er : runes (rest 5 ex5 0) = [.int .i32 97, .int .i32 65533, .int .i32 98] := by rw [rest5]; rfl
  rw [er] at C1
  rw [el] at C2
  have C1 := Lib.hid C1
  have C2 := Lib.hid C2
  clear hbs el er
  go_enter Tryd.func13, Tryd.ntmps13
  go_wp2_with fail
  refine C1.out.mono ?_
  rintro e w1 ⟨v, rfl, hown, _, hb1⟩
  obtain ⟨g, cap, rfl⟩ := ownsRow_succ hown
  have q0 := hown.cellAt 0 (by simp)
  have q1 := hown.cellAt 1 (by simp)
  have q2 := hown.cellAt 2 (by simp)
  simp at q0 q1 q2
  have hb0 : Below w.heap.size w w1 := ((Below.refl _ w).alloc (Nat.le_refl _) _).trans (hb1.mono (by simp))
  clear hown hb1
  go_wp2_with fail
  refine (C2.out _).mono ?_
  rintro e w2 ⟨g2, cap2, rfl, hc2, _, _, _, hb2⟩
  have hcv : (convert 22 9 (.slice (some ⟨g2, 0, none⟩) 4 cap2)).run Tryd.prog w2 = .ok (.string ⟨#[240, 159, 152, 128]⟩) w2 := run_convert_bytes_back (P := Tryd.prog) w2 22 9 5 ⟨g2, 0, none⟩ cap2 [240, 159, 152, 128] Tryd.underlying22 Tryd.underlying5 Tryd.underlying9 (fun j hj => by rw [add0]; exact hc2 j hj)
  have hbz := hb0.trans (hb2.mono hb0.size)
  clear hc2 hb2 hb0 q0 q1 q2
  go_wp2
  go_ret
  exact ⟨rfl, hbz⟩
end Go.Proofs.YtimiinnnmdcmhaaDoor
