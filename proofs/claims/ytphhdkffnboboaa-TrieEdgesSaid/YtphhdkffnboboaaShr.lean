/-
  Blocks as keys of a map; blocks that are alike.
-/
import Derived.Maps.OwnSet
import Derived.Maps.Views
import Derived.DeepKeys4
import Derived.Test.YtphhdkffnboboaaFill
namespace Go.Proofs.Ytphhdkffnboboaa
open Go.RowKit Go.Shelf
open Go.Lib Go.Great Go.Maps

theorem laidOut : laidOutB Try.prog = true := by kernel_rfl
theorem law84 : Keyed Try.prog 84 := Keyed.of_law (deep_law_laid laidOut (m := 3) (by decide) (of_decide_eq_true (by kernel_rfl)) (by kernel_rfl) (by kernel_rfl))

theorem mapM_some {α β : Type} (f : α → Option β) (g : α → β) : ∀ l : List α, (∀ x ∈ l, f x = some (g x)) → l.mapM f = some (l.map g) := by
  intro l
  induction l with
  | nil => intro _; rfl
  | cons x xs ih =>
    intro h
    rw [List.mapM_cons, h x List.mem_cons_self, ih fun y hy => h y (List.mem_cons_of_mem _ hy)]
    rfl
/-- A block's cells. -/
def blc (F : Nat → Int) (k : Nat) : List Value := (List.range 256).map fun j => Value.int .u8 (F (256 * k + j))
theorem blc_len (F : Nat → Int) (k : Nat) : (blc F k).length = 256 := by simp [blc]
theorem blc_get (F : Nat → Int) (k j : Nat) (hj : j < 256) : (blc F k)[j]? = some (.int .u8 (F (256 * k + j))) := by
  simp only [blc, List.getElem?_map, List.getElem?_range hj, Option.map_some]
def U8 (F : Nat → Int) : Prop := ∀ i, 0 ≤ F i ∧ F i ≤ 255
theorem key84 (F : Nat → Int) (hF : U8 F) (k : Nat) : ∃ kl, keyOf Try.prog 84 (.agg (blc F k).toArray) = some kl := by
  have hk : Try.prog.keyType 84 = true := by kernel_rfl
  have hc : Try.prog.cellsOf 84 = 256 := by kernel_rfl
  have hc5 : Try.prog.cellsOf 5 = 1 := by kernel_rfl
  have hs : ∃ d, Try.prog.types.size + 1 = d + 1 + 1 := ⟨161, by kernel_rfl⟩
  obtain ⟨d, hd⟩ := hs
  have hf : (Value.agg (blc F k).toArray).formed Try.prog 84 = true := by
    simp [Value.formed, Try.underlying84, hc, blc_len]
  have hl : Try.prog.keyLits (d + 1 + 1) 84 (blc F k) = some (((List.range 256).map fun i => [Lit.int .u8 (F (256 * k + i))]).flatten) := by
    unfold Program.keyLits
    simp only [Try.underlying84]
    rw [if_pos (by rw [blc_len, hc]), mapM_some _ (fun i => [Lit.int .u8 (F (256 * k + i))])]
    · rfl
    · intro i hi
      have hi := List.mem_range.1 hi
      have e : ((blc F k).drop (i * Try.prog.cellsOf 5)).take (Try.prog.cellsOf 5) = [.int .u8 (F (256 * k + i))] := by
        rw [hc5, Nat.mul_one]
        have := blc_get F k i hi
        rw [List.take_one, List.head?_drop, this]
        rfl
      have hw : (Lit.int .u8 (F (256 * k + i))).wf = true := by
        have := hF (256 * k + i)
        simp [Lit.wf, IntKind.min, IntKind.max, IntKind.signed, IntKind.bits]
        omega
      rw [e]
      unfold Program.keyLits
      simp only [Try.underlying5]
      rw [if_pos ⟨trivial, hw⟩]
  refine ⟨.string (keyBytes (((List.range 256).map fun i => [Lit.int .u8 (F (256 * k + i))]).flatten)), ?_⟩
  unfold keyOf
  simp only [Try.underlying84]
  rw [hk, hf, hd]
  simp only [Bool.and_self, if_true]
  show (Try.prog.keyLits (d + 1 + 1) 84 (blc F k)).map _ = _
  rw [hl]
  rfl
end Go.Proofs.Ytphhdkffnboboaa
