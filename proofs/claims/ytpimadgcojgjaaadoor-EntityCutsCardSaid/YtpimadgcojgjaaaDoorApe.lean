/-
  Own rows of bytes: a slice of bytes more.
-/
import Derived.Test.YtpimadgcojgjaaaDoorApd
import Derived.Maps.AppendAt
import Derived.Laws.AppendOwnNone
namespace Go.Proofs.YtpimadgcojgjaaaDoor
open Go.RowKit Go.Shelf Go.Lib Go.Maps

theorem u8C_append (l m : List Nat) : u8C (l ++ m) = u8C l ++ u8C m := by simp [u8C]
/-- A slice of bytes more. -/
theorem wpList_appBs {ops : Array Oper} {rest : List Oper} {o : Oper} {a : Act} {w : World} {Q : Exit → Act → World → Prop} (hgd : o.guard = none) (s x : Operand)
    (ho : o.op = .call { callee := .builtin .append, args := #[s, x], argTypes := #[22, 22] }) (base : Nat) (v : Value) (l ys : List Nat) (hs : a.eval s = v) (hown : OwnB w base l v) (A : Option Addr) (m cap : Nat) (hm : ys.length = m)
    (hx : a.eval x = .slice A m cap) (hB : BY w w.heap.size ys A cap) (h63 : l.length + m ≤ 1000000) (hbase : base ≤ w.heap.size)
    (h : ∀ v' w', OwnB w' base (l ++ ys) v' → Below base w w' → wpList Tryd.prog ops Q rest (a.put o.dst v') w') : wpList Tryd.prog ops Q (o :: rest) a w := by
  obtain ⟨i, hi, hz, hs1, hb1⟩ := info_parts info5
  subst hm
  cases A with
  | none =>
    have hc := hB.z rfl
    subst hc
    have hy : ys = [] := List.eq_nil_of_length_eq_zero (by have := hB.l; omega)
    subst hy
    refine wpList_append_own_none hgd s x 22 ho base 5 i 1 Tryd.underlying22 hi v l.length (u8C l) hs hown hx ?_
    exact h v w (by rw [List.append_nil]; exact hown) (Below.refl _ _)
  | some ad =>
    obtain ⟨v', w', hr, h2, h3, _, _⟩ := run_append_own_at (P := Tryd.prog) w base 22 o.type 5 i (.int .u8 0) 1 1 Tryd.underlying22 hi hz hs1 hb1 rfl (by decide) v l.length (u8C l) hown ad ys.length cap (u8C ys) (by simp [u8C]) (fun j u hj => by
      unfold u8C at hj
      rw [List.getElem?_map] at hj
      cases e : ys[j]? with
      | none => rw [e] at hj; simp at hj
      | some y =>
        rw [e] at hj
        simp at hj
        subst hj
        obtain ⟨b, o', e2, _, hc⟩ := hB.at e
        simp only [Option.some.injEq] at e2
        subst e2
        unfold Addr.add
        by_cases h0 : j = 0
        · subst h0; simpa using hc
        · simpa [h0] using hc) (fun u hu => by
      simp [u8C] at hu
      obtain ⟨y, _, rfl⟩ := hu
      rfl) (by unfold maxLen; omega) (by omega) hbase
    refine wpList_plain hgd fun K hK => ?_
    unfold Oper.wp
    simp only [execOp, ho, resolve, invoke, builtin, Sem.run_bind, Sem.run_pure, Result.andThen_ok, List.map_toArray, List.map_cons, List.map_nil, hs, hx, hr]
    refine hK _ _ (h v' w' ?_ (below_grown' h3 hown hbase))
    unfold OwnB
    rw [List.length_append, u8C_append]
    exact h2
theorem ownB_lit0 (w : World) : OwnB (w.alloc (.cells #[] 5)) w.heap.size [] (.slice (some ⟨w.heap.size, 0, none⟩) 0 0) := World.ownsRow_lit w #[] 0 (Nat.le_refl _) (by decide) rfl
end Go.Proofs.YtpimadgcojgjaaaDoor
