/-
  Own rows of bytes: a string's bytes more.
-/
import Derived.Test.YtplnkmojkdbbnaaApe
import Derived.Test.YtplnkmojkdbbnaaMay
import Derived.Lib.AppendStr
namespace Go.Proofs.Ytplnkmojkdbbnaa
open Go.RowKit Go.Shelf Go.Lib Go.Maps

theorem strCells_u8s {m : List Nat} (h : ∀ x ∈ m, x < 256) : Lib.strCells ⟨(u8s m).toArray⟩ = u8C m := by
  unfold Lib.strCells u8C u8s
  simp only [List.map_map]
  refine List.map_congr_left fun x hx => ?_
  have := h x hx
  simp [Nat.mod_eq_of_lt this]
/-- A string's bytes more. -/
theorem wpList_appStr {ops : Array Oper} {rest : List Oper} {o : Oper} {a : Act} {w : World} {Q : Exit → Act → World → Prop} (hgd : o.guard = none) (s x : Operand)
    (ho : o.op = .call { callee := .builtin .append, args := #[s, x], argTypes := #[22, 9] }) (base : Nat) (v : Value) (l m : List Nat) (S : ByteArray) (hS : ⟨(u8s m).toArray⟩ = S) (hs : a.eval s = v) (hown : OwnB w base l v)
    (hx : a.eval x = .string S) (h256 : ∀ x ∈ m, x < 256) (h63 : l.length + m.length ≤ 1000000) (hbase : base ≤ w.heap.size)
    (h : ∀ v' w', OwnB w' base (l ++ m) v' → Below base w w' → wpList Try.prog ops Q rest (a.put o.dst v') w') : wpList Try.prog ops Q (o :: rest) a w := by
  obtain ⟨i, hi, hz, hs1, hb1⟩ := info_parts info5
  subst hS
  have hsz := size_str m
  refine wpList_append_own_string w hgd s x 22 9 ho base 5 i Try.underlying22 Try.underlying9 hi hz hs1 hb1 v l.length (u8C l) hs hown _ hx (by rw [hsz]; unfold maxLen; omega) (by rw [hsz]; omega) hbase ?_
  intro v' w' h1 h2 _
  rw [hsz, strCells_u8s h256, ← u8C_append, ← List.length_append] at h1
  exact h v' w' h1 (below_grown' h2 hown hbase)
end Go.Proofs.Ytplnkmojkdbbnaa
