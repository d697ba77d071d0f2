/-
  []byte(s): the row that it makes; a slice of bytes more behind it.
-/
import Derived.Test.YtpimadgcojgjaaaDoorCvb
import Derived.Test.YtpimadgcojgjaaaDoorApe
import Derived.ArgAppend
namespace Go.Proofs.YtpimadgcojgjaaaDoor
open Go.RowKit Go.Shelf Go.Lib Go.Maps

theorem below_setCells {B : Nat} {w : World} (g : Nat) (hB : B ≤ g) : ∀ (vs : List Value) (o : Nat) (w' : World), Below B w w' → Below B w (w'.setCells g o vs)
  | [], _, _, h => h
  | v :: r, o, _w', h => below_setCells g hB r (o + 1) _ (h.setCell (p := ⟨g, o, none⟩) hB v)
theorem size_setCells (g : Nat) : ∀ (vs : List Value) (o : Nat) (w : World), (w.setCells g o vs).heap.size = w.heap.size
  | [], _, _ => rfl
  | v :: r, o, w => by
    show ((w.setCell ⟨g, o, none⟩ v).setCells g (o + 1) r).heap.size = _
    rw [size_setCells g r (o + 1)]
    simp
/-- A slice of bytes more behind []byte(s). -/
theorem wpList_appM {ops : Array Oper} {rest : List Oper} {o : Oper} {a : Act} {w : World} {Q : Exit → Act → World → Prop} (hgd : o.guard = none) (s x : Operand)
    (ho : o.op = .call { callee := .builtin .append, args := #[s, x], argTypes := #[22, 22] }) (B g : Nat) (hBg : B ≤ g) (l ys : List Nat) (n cap : Nat) (hn : l.length = n) (hs : a.eval s = .slice (some ⟨g, 0, none⟩) n cap) (hrow : ByR w g l cap) (A : Option Addr) (m c : Nat) (hm : ys.length = m)
    (hx : a.eval x = .slice A m c) (hB : BY w w.heap.size ys A c) (h63 : n + m ≤ 1000000)
    (h : ∀ A' cap' w', BY w' w'.heap.size (l ++ ys) A' cap' → Below B w w' → wpList Tryd.prog ops Q rest (a.put o.dst (.slice A' (n + m) cap')) w') : wpList Tryd.prog ops Q (o :: rest) a w := by
  obtain ⟨i, hi, hz, hs1, hb1⟩ := info_parts info5
  have hlt := hrow.lt
  subst hn hm
  cases A with
  | none =>
    have hc := hB.z rfl
    subst hc
    have hy : ys = [] := List.eq_nil_of_length_eq_zero (by have := hB.l; omega)
    subst hy
    have hrun : (Builtin.append_ #[22, 22] o.type #[.slice (some ⟨g, 0, none⟩) l.length cap, .slice none 0 0]).run Tryd.prog w = .ok (.slice (some ⟨g, 0, none⟩) l.length cap) w := by
      have := hrow.le
      simp [Builtin.append_, run_underlying Tryd.underlying22, sizeOf, typeInfo, hi, Builtin.lenOf, Builtin.firstCells, this, storeCells]
    refine wpList_plain hgd fun K hK => ?_
    unfold Oper.wp
    have hx' : a.eval x = .slice none 0 0 := hx
    simp [execOp, ho, resolve, invoke, builtin, hs, hx', hrun, Result.andThen]
    have := h (some ⟨g, 0, none⟩) cap w (by rw [List.append_nil]; exact hrow.by) (Below.refl _ _)
    exact hK _ _ this
  | some ad =>
    have hby := hrow.by
    have hcells : ∀ (j : Nat) (u : Value), (u8C l)[j]? = some u → w.cell? ⟨g, 0 + j, none⟩ = some u := fun j u hj => by
      unfold u8C at hj
      rw [List.getElem?_map] at hj
      cases e : l[j]? with
      | none => rw [e] at hj; simp at hj
      | some y =>
        rw [e] at hj
        simp at hj
        subst hj
        obtain ⟨b, o', e2, _, hc⟩ := hby.at e
        obtain ⟨rfl, rfl⟩ : g = b ∧ 0 = o' := by simpa using e2
        exact hc
    have hnews : ∀ (j : Nat) (u : Value), (u8C ys)[j]? = some u → w.cell? (ad.add j) = some u := fun j u hj => by
      unfold u8C at hj
      rw [List.getElem?_map] at hj
      cases e : ys[j]? with
      | none => rw [e] at hj; simp at hj
      | some y =>
        rw [e] at hj
        simp at hj
        subst hj
        obtain ⟨b, o', e2, _, hc⟩ := hB.at e
        simp only [Option.some.injEq] at e2
        subst e2
        unfold Addr.add
        by_cases h0 : j = 0
        · subst h0; simpa using hc
        · simpa [h0] using hc
    have hone : ∀ u ∈ u8C ys, u.oneCell' = true := fun u hu => by
      simp [u8C] at hu
      obtain ⟨y, _, rfl⟩ := hu
      rfl
    have h256 : ∀ x ∈ l ++ ys, x < 256 := fun x hx => by
      rcases List.mem_append.1 hx with hx | hx
      · exact hrow.b x hx
      · exact hB.i x hx
    have hsp : l.length + ys.length ≤ cap → ∀ j, j < (u8C ys).length → (w.cell? ⟨g, 0 + l.length * 1 + j, none⟩).isSome = true ∧ w.frozen? ⟨g, 0 + l.length * 1 + j, none⟩ = false := fun hroom j hj => by
      rw [u8C_len] at hj
      obtain ⟨cur, k, h1, h2, h3, _⟩ := hrow.row
      constructor
      · unfold World.cell?
        rw [h1]
        simp only []
        rw [Array.getElem?_eq_getElem (by omega)]
        rfl
      · unfold World.frozen?
        rw [h1]
        simp
        omega
    refine wpList_append_arg (P := Tryd.prog) w hgd s x 22 ho 5 i (.int .u8 0) 1 1 Tryd.underlying22 hi hz hs1 hb1 rfl (by decide) g 0 l.length cap (u8C l) hs (by rw [u8C_len, Nat.mul_one]) hcells ad ys.length c (u8C ys) hx (by rw [u8C_len, Nat.mul_one]) hnews hone hsp (by unfold maxLen; omega) (by omega) ?_ ?_
    · intro hroom
      rw [Nat.zero_add, Nat.mul_one]
      refine h _ _ _ ⟨by rw [List.length_append]; exact hroom, hrow.mx, fun e => (by cases e), h256, fun _ => ⟨g, 0, rfl, by rw [size_setCells]; exact hlt, fun i x hx => ?_⟩⟩ (below_setCells g hBg _ _ _ (Below.refl _ _))
      rw [Nat.zero_add]
      rcases Nat.lt_or_ge i l.length with hi' | hi'
      · rw [World.cell?_setCells_out _ _ _ _ _ (fun _ _ => .inl hi')]
        rw [List.getElem?_append_left hi'] at hx
        have := hcells i (.int .u8 (x : Int)) (by simp [u8C, hx])
        rwa [Nat.zero_add] at this
      · rw [List.getElem?_append_right hi'] at hx
        have hj : i - l.length < (u8C ys).length := by
          have := (List.getElem?_eq_some_iff.1 hx).1
          rw [u8C_len]
          exact this
        have hin := World.cell?_setCells_in g (u8C ys) l.length w (fun j hj => by
          have := (hsp hroom j hj).1
          rwa [Nat.zero_add, Nat.mul_one] at this) (i - l.length) hj
        rw [show l.length + (i - l.length) = i by omega] at hin
        rw [hin]
        have h2 : (u8C ys)[i - l.length]? = some (.int .u8 (x : Int)) := by simp [u8C, hx]
        rw [List.getElem?_eq_getElem hj] at h2
        exact h2
    · intro hfull v' w' h1 h2
      rw [← u8C_append] at h1
      have ho1 : OwnB w' w.heap.size (l ++ ys) v' := by unfold OwnB; rw [List.length_append]; exact h1
      obtain ⟨A', cap', rfl, hb'⟩ := ho1.by h256
      have := h A' cap' w' hb' ⟨h2.os, h2.tape, h2.output, h2.size, fun k hk => h2.block k (by omega) (by simp)⟩
      rw [List.length_append]
      exact this
end Go.Proofs.YtpimadgcojgjaaaDoor
