/-
  The styles as mathematics; what is whole. No program but small laws.
-/
import Derived.Test.YtpimadgcojgjaaaDoorFon
namespace Go.Proofs.YtpimadgcojgjaaaDoor
open Go.RowKit Go.Shelf Go.Lib Go.Maps Go.Great
attribute [local irreducible] NR ZNR FR nmE

structure Sty where
  beg : List UInt8
  may : List Nat → Nat → Bool
  means : List Nat → Int
def mayNm (l : List Nat) (c : Nat) : Bool := (nmE.find? (isMy l c)).isSome
def stN : Sty := ⟨[38], mayNm, fun l => nmR (u8s l)⟩
def stD (beg : List UInt8) (b most : Nat) : Sty := ⟨beg, mayD b most, fun l => mnR (nbV b l 0)⟩
def styL : List Sty := [stN, stD [38, 35] 10 7, stD [38, 35, 120] 16 6, stD [38, 35, 88] 16 6]
def readS : List Sty → List Nat → Int × Nat
  | [], _ => (0, 0)
  | s :: r, xs => if (followR s.beg s.may xs).2 then (s.means ((xs.take ((followR s.beg s.may xs).1 - 1)).drop s.beg.length), (followR s.beg s.may xs).1) else readS r xs
def openS : List Sty → List Nat → Bool
  | [], _ => false
  | s :: r, xs => if (followR s.beg s.may xs).1 = xs.length ∧ (followR s.beg s.may xs).2 = false then decide (0 < (followR s.beg s.may xs).1) else openS r xs
def readE (xs : List Nat) (i : Int) : Int × Nat := if i < 0 ∨ (xs.length : Int) ≤ i then (0, 0) else if xs.getD i.toNat 0 = 38 then readS styL (xs.drop i.toNat) else (0, 0)

theorem take_snoc {l : List Nat} {n c h : Nat} (hx : l[n]? = some c) (hh : h ≤ n) : (l.take (n + 1)).drop h = (l.take n).drop h ++ [c] := by
  have hn := (List.getElem?_eq_some_iff.1 hx).1
  rw [List.take_add_one, hx, Option.toList_some, List.drop_append_of_le_length (by simp; omega)]
theorem fol_true {may : List Nat → Nat → Bool} {xs : List Nat} {h m : Nat} : ∀ (r : List Nat) (n : Nat), r = xs.drop n → h ≤ n → fol may xs h n r = (m, true) → n < m ∧ m ≤ xs.length
  | [], n, _, _, e => by simp [fol] at e
  | c :: r, n, hr, hh, e => by
    have hx : xs[n]? = some c := by have := congrArg (·[0]?) hr; simpa using this.symm
    have hn := (List.getElem?_eq_some_iff.1 hx).1
    rw [fol] at e
    split at e
    · split at e
      · simp at e
        omega
      · have hr2 : r = xs.drop (n + 1) := by
          have := drop_at hx
          rw [← hr] at this
          injection this
        have := fol_true r (n + 1) hr2 (by omega) e
        omega
    · simp at e
theorem fol_num {b most : Nat} {xs : List Nat} {h m : Nat} : ∀ (r : List Nat) (n : Nat), r = xs.drop n → h ≤ n → (∀ x ∈ (xs.take n).drop h, dgB b x = true) → ((xs.take n).drop h).length ≤ most → fol (mayD b most) xs h n r = (m, true) →
    (∀ x ∈ (xs.take (m - 1)).drop h, dgB b x = true) ∧ (xs.take (m - 1)).drop h ≠ [] ∧ ((xs.take (m - 1)).drop h).length ≤ most
  | [], n, _, _, _, _, e => by simp [fol] at e
  | c :: r, n, hr, hh, hd, hl, e => by
    have hx : xs[n]? = some c := by have := congrArg (·[0]?) hr; simpa using this.symm
    have hn := (List.getElem?_eq_some_iff.1 hx).1
    rw [fol] at e
    split at e
    · rename_i hmay
      split at e
      · rename_i hc
        simp at e
        obtain rfl := e
        rw [mayD, if_pos hc] at hmay
        refine ⟨by simpa using hd, ?_, by simpa using hl⟩
        intro e0
        simp at hmay
        have := congrArg List.length e0
        simp at this
        omega
      · rename_i hc
        have hr2 : r = xs.drop (n + 1) := by
          have := drop_at hx
          rw [← hr] at this
          injection this
        rw [mayD, if_neg hc] at hmay
        simp only [Bool.and_eq_true, decide_eq_true_eq] at hmay
        refine fol_num r (n + 1) hr2 (by omega) ?_ ?_ e
        · rw [take_snoc hx hh]
          intro x hx
          rcases List.mem_append.1 hx with h | h
          · exact hd x h
          · rw [List.mem_singleton.1 h]; exact hmay.2
        · rw [take_snoc hx hh, List.length_append]
          simp only [List.length_singleton]
          omega
    · simp at e
theorem follow_true {beg : List UInt8} {may : List Nat → Nat → Bool} {xs : List Nat} {m : Nat} (e : followR beg may xs = (m, true)) : beg.length < m ∧ m ≤ xs.length := by
  unfold followR at e
  split at e
  · exact fol_true _ _ rfl (Nat.le_refl _) e
  · simp at e
theorem follow_num {beg : List UInt8} {b most : Nat} {xs : List Nat} {m : Nat} (e : followR beg (mayD b most) xs = (m, true)) :
    (∀ x ∈ (xs.take (m - 1)).drop beg.length, dgB b x = true) ∧ (xs.take (m - 1)).drop beg.length ≠ [] ∧ ((xs.take (m - 1)).drop beg.length).length ≤ most := by
  unfold followR at e
  split at e
  · refine fol_num _ _ rfl (Nat.le_refl _) ?_ ?_ e
    · intro x hx
      simp at hx
    · simp
  · simp at e
theorem slice_from (b o len cap l : Nat) (hlh : l < len) (hh : len ≤ cap) (W : World) :
    (Instr.slice 22 (.slice (some ⟨b, o, none⟩) len cap) (some (.int .i64 (l : Int))) none none).run Tryd.prog W = .ok (.slice (some ⟨b, o + l, none⟩) (len - l) (cap - l)) W := by
  have ht : Tryd.prog.underlying 22 = some (.slice 5) := Tryd.underlying22
  have ht' : Tryd.prog.underlying 22 = some (.slice (Tryd.prog.elem 22)) := by simp [Program.elem, ht]
  have he : Tryd.prog.elem 22 = 5 := by simp [Program.elem, ht]
  have hz : ∀ w, (Go.sizeOf 5).run Tryd.prog w = .ok 1 w := fun w => by kernel_rfl
  rw [run_slice_l W 22 _ _ _ ht' .i64 _ (by omega) (by omega), he, hz]
  have hne : ¬ cap = l := by omega
  by_cases h0 : l = 0
  · subst h0
    simp [Result.andThen, sliced, Addr.add, hne]
  · simp [Result.andThen, sliced, Addr.add, hne, h0]
theorem index_sty (g1 g2 g3 : Nat) (W : World) : (Instr.index 62 (stysV g1 g2 g3) (.int .i64 0)).run Tryd.prog W = .ok (.agg namF.toArray) W ∧ (Instr.index 62 (stysV g1 g2 g3) (.int .i64 1)).run Tryd.prog W = .ok (.agg (numF [38, 35] g1).toArray) W ∧
    (Instr.index 62 (stysV g1 g2 g3) (.int .i64 2)).run Tryd.prog W = .ok (.agg (numF [38, 35, 120] g2).toArray) W ∧ (Instr.index 62 (stysV g1 g2 g3) (.int .i64 3)).run Tryd.prog W = .ok (.agg (numF [38, 35, 88] g3).toArray) W :=
  ⟨by kernel_rfl, by kernel_rfl, by kernel_rfl, by kernel_rfl⟩
end Go.Proofs.YtpimadgcojgjaaaDoor
