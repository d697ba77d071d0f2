/-
  Two own rows of bytes side by side.
-/
import Derived.Test.YtpimadgcojgjaaaDoorApe
import Derived.Test.YtpimadgcojgjaaaDoorWrm
namespace Go.Proofs.YtpimadgcojgjaaaDoor
open Go.RowKit Go.Shelf Go.Lib Go.Maps

/-- Their blocks differ. -/
def Apart (u v : Value) : Prop := ∀ k, u.ownBlock = some k → v.ownBlock ≠ some k
theorem apart_nil (v : Value) : Apart (.slice none 0 0) v := fun k h => by simp [Value.ownBlock] at h
theorem apart_nil' (u : Value) : Apart u (.slice none 0 0) := fun k _ h => by simp [Value.ownBlock] at h
theorem Apart.symm {u v : Value} (h : Apart u v) : Apart v u := fun k h1 h2 => h k h2 h1
theorem OwnB.other {w w' : World} {base : Nat} {l : List Nat} {u v : Value} (h : OwnB w base l u) (ha : Apart u v) (hg : w.grownBy w' v.ownBlock) : OwnB w' base l u :=
  World.ownsRow.kept h hg (by
    cases e : u.ownBlock with
    | none => exact .inl rfl
    | some k => exact .inr (fun h2 => ha k e h2.symm))
theorem Apart.next {w : World} {base : Nat} {l : List Nat} {u v v' : Value} (h : OwnB w base l u) (ha : Apart u v) (hv : v'.ownBlock = v.ownBlock ∨ v'.ownBlock = some w.heap.size) : Apart u v' := fun k hk h2 => by
  rcases hv with e | e
  · exact ha k hk (by rw [← e]; exact h2)
  · have := (own_block_lt h k hk).2
    rw [e] at h2
    injection h2 with h2
    omega
/-- A slice of bytes more; the row grew, or it is new. -/
theorem wpList_appBt {ops : Array Oper} {rest : List Oper} {o : Oper} {a : Act} {w : World} {Q : Exit → Act → World → Prop} (hgd : o.guard = none) (s x : Operand)
    (ho : o.op = .call { callee := .builtin .append, args := #[s, x], argTypes := #[22, 22] }) (base : Nat) (v : Value) (l ys : List Nat) (hs : a.eval s = v) (hown : OwnB w base l v) (A : Option Addr) (m cap : Nat) (hm : ys.length = m)
    (hx : a.eval x = .slice A m cap) (hB : BY w w.heap.size ys A cap) (h63 : l.length + m ≤ 1000000) (hbase : base ≤ w.heap.size)
    (h : ∀ v' w', OwnB w' base (l ++ ys) v' → Below base w w' → w.grownBy w' v.ownBlock → (v'.ownBlock = v.ownBlock ∨ v'.ownBlock = some w.heap.size) → wpList Tryd.prog ops Q rest (a.put o.dst v') w') : wpList Tryd.prog ops Q (o :: rest) a w := by
  obtain ⟨i, hi, hz, hs1, hb1⟩ := info_parts info5
  subst hm
  cases A with
  | none =>
    have hc := hB.z rfl
    subst hc
    have hy : ys = [] := List.eq_nil_of_length_eq_zero (by have := hB.l; omega)
    subst hy
    refine wpList_append_own_none hgd s x 22 ho base 5 i 1 Tryd.underlying22 hi v l.length (u8C l) hs hown hx ?_
    exact h v w (by rw [List.append_nil]; exact hown) (Below.refl _ _) (World.grownBy.refl w _) (.inl rfl)
  | some ad =>
    obtain ⟨v', w', hr, h2, h3, _, h5⟩ := run_append_own_at (P := Tryd.prog) w base 22 o.type 5 i (.int .u8 0) 1 1 Tryd.underlying22 hi hz hs1 hb1 rfl (by decide) v l.length (u8C l) hown ad ys.length cap (u8C ys) (by simp [u8C]) (fun j u hj => by
      unfold u8C at hj
      rw [List.getElem?_map] at hj
      cases e : ys[j]? with
      | none => rw [e] at hj; simp at hj
      | some y =>
        rw [e] at hj
        simp at hj
        subst hj
        obtain ⟨b, o', e2, _, hc⟩ := hB.at e
        simp only [Option.some.injEq] at e2
        subst e2
        unfold Addr.add
        by_cases h0 : j = 0
        · subst h0; simpa using hc
        · simpa [h0] using hc) (fun u hu => by
      simp [u8C] at hu
      obtain ⟨y, _, rfl⟩ := hu
      rfl) (by unfold maxLen; omega) (by omega) hbase
    refine wpList_plain hgd fun K hK => ?_
    unfold Oper.wp
    simp only [execOp, ho, resolve, invoke, builtin, Sem.run_bind, Sem.run_pure, Result.andThen_ok, List.map_toArray, List.map_cons, List.map_nil, hs, hx, hr]
    refine hK _ _ (h v' w' ?_ (below_grown' h3 hown hbase) h3 h5)
    unfold OwnB
    rw [List.length_append, u8C_append]
    exact h2
/-- What is stripped of texts with sequences between them. -/
theorem strip_write {c : Nat} (hc : c < 256) (n : Nat) (hn : n ≤ 65535) (m : List Nat) : stripK 0 (nats (writeU c [(n : Int)]) ++ m) = stripK 0 m := by
  by_cases hf : inR 64 126 c = true
  · have hok : [(n : Int)].all okZ = true := by simp [okZ]; omega
    rw [nats_write hc hf hok, List.cons_append, List.cons_append, List.append_assoc]
    exact strip_seq _ c m (params_join hok) hf
  · rw [writeU, if_neg (fun h => hf h.1)]
    rfl
theorem write_len (c n : Nat) (hn : n ≤ 65535) : (writeU c [(n : Int)]).length ≤ 8 := by
  unfold writeU
  split
  · rw [List.map_cons, List.map_nil, Lib.join_one]
    have := itoa_len (z := (n : Int)) (by omega) (by omega)
    simp
    omega
  · simp
theorem strip_step {L1 L2 P W : List Nat} (h2 : ∀ m, stripK 0 (L2 ++ m) = L1 ++ stripK 0 m) (hP : ∀ x ∈ P, x ≠ 27) (hW : ∀ m, stripK 0 (W ++ m) = stripK 0 m) : ∀ m, stripK 0 (((L2 ++ P) ++ W) ++ m) = (L1 ++ P) ++ stripK 0 m := fun m => by
  rw [List.append_assoc, List.append_assoc, h2, strip_plain P _ hP, hW, List.append_assoc]
end Go.Proofs.YtpimadgcojgjaaaDoor
