/-
  Contract of the document's side: N.Take.
-/
import Derived.Test.YtojinnnpfjhifaaRts
import Derived.Test.YtojinnnpfjhifaaRtn
namespace Go.Proofs.Ytojinnnpfjhifaa
open Go.RowKit Go.Shelf Go.Lib Go.Maps
attribute [local irreducible] nmL ofN

theorem refTake_any (en sg : Bool) (nm : ByteArray) (c : Ct) (hc : c.ok) (w : World) :
    Calls Try.prog 10 #[.agg (ctA c), .bool en, .bool sg, .string nm] w fun e w' =>
      e = .returned (.tuple #[.agg (ctA (takeC (nameN nm) (if en then 3 else 2) sg c)), .bool (takeF (nameN nm) (if en then 3 else 2) c), .bool (takeX (nameN nm) (if en then 3 else 2) c)]) ∧ Below w.heap.size w w' := by
  have CO : ∀ W, Calls Try.prog 19 #[.string nm] W fun e W' => e = .returned (.int .i64 ((nameN nm : Nat) : Int)) ∧ Below W.heap.size W W' := fun W => refOf_any nm W
  have hN : nameN nm < 128 := ofN_lt _ 7
  obtain ⟨N, hNN⟩ : ∃ N, nameN nm = N := ⟨_, rfl⟩
  simp only [hNN] at CO hN ⊢
  have t0 : ((N : Int) % 2 == 1) = isB N 0 := by have := bitT N 0 _ rfl; simpa using this
  have t1 : ((N : Int) / 2 % 2 == 1) = isB N 1 := bitT N 1 _ rfl
  have t2 : ((N : Int) / 4 % 2 == 1) = isB N 2 := bitT N 2 _ rfl
  have t3 : ((N : Int) / 8 % 2 == 1) = isB N 3 := bitT N 3 _ rfl
  have t4 : ((N : Int) / 16 % 2 == 1) = isB N 4 := bitT N 4 _ rfl
  have t5 : ((N : Int) / 32 % 2 == 1) = isB N 5 := bitT N 5 _ rfl
  have t6 : ((N : Int) / 64 % 2 == 1) = isB N 6 := bitT N 6 _ rfl
  obtain ⟨h1, h2, h3⟩ := hc
  obtain ⟨ch, cp, cn⟩ := c
  simp only at h1 h2 h3
  have e0 : ((ch : Int) == 0) = decide (ch = 0) := by
    by_cases q : ch = 0
    · rw [q]; rfl
    · rw [decide_eq_false q]; simpa using q
  have d : ∀ b : Bool, (decide (ch = 0) && b) = true ↔ (ch = 0 ∧ b = true) := fun b => by simp
  cases en
  · refine (refTake_Rts sg nm ch cp cn h1 h2 h3 N _ _ _ _ _ _ _ _ t0 t1 t2 t3 t4 t5 t6 e0 hN _ rfl w CO).mono ?_
    rintro e w' ⟨rfl, hb⟩
    refine ⟨?_, hb⟩
    simp [takeC, takeF, takeX, addN, byN, forcesN, ctA, d]
  · refine (refTake_Rtn sg nm ch cp cn h1 h2 h3 N _ _ _ _ _ _ _ _ t0 t1 t2 t3 t4 t5 t6 e0 hN _ rfl w CO).mono ?_
    rintro e w' ⟨rfl, hb⟩
    refine ⟨?_, hb⟩
    simp [takeC, takeF, takeX, addN, byN, forcesN, ctA, d]
end Go.Proofs.Ytojinnnpfjhifaa
