/-
  Own rows of names: one more; sorted.
-/
import Derived.Test.YtncglgbogplpcaaDoorMp
namespace Go.Proofs.YtncglgbogplpcaaDoor
open Go.RowKit Go.Shelf Go.Lib Go.Maps
open Go.Sort (grow putRow Holds)

def strL (l : List (List UInt8)) : List Value := l.map fun x => .string ⟨x.toArray⟩
def OwnS (w : World) (base : Nat) (l : List (List UInt8)) (v : Value) : Prop := w.ownsRow base 9 1 v l.length (strL l)
theorem ownS_nil (w : World) (base : Nat) : OwnS w base [] (.slice none 0 0) := ⟨rfl, .inl ⟨rfl, rfl⟩⟩
theorem OwnS.kept {w w' : World} {base : Nat} {l : List (List UInt8)} {v : Value} {row : Option Nat} (h : OwnS w base l v) (hg : w.grownBy w' row) (hne : v.ownBlock = none ∨ v.ownBlock ≠ row) : OwnS w' base l v := World.ownsRow.kept h hg (by
  rcases hne with h1 | h1
  · exact .inl h1
  · exact .inr h1)
theorem OwnS.form {w : World} {base : Nat} {l : List (List UInt8)} {v : Value} (h : OwnS w base l v) : ∃ A c, v = .slice A l.length c := by
  rcases h.2 with ⟨h1, h2⟩ | ⟨g, cap, cur, h1, _⟩
  · exact ⟨none, 0, by rw [h1, h2]⟩
  · exact ⟨_, _, h1⟩
theorem OwnS.cap {w : World} {base : Nat} {l : List (List UInt8)} {A : Option Addr} {n c : Nat} (h : OwnS w base l (.slice A n c)) : l.length ≤ c ∧ c ≤ maxLen := by
  rcases h.2 with ⟨h1, h2⟩ | ⟨g, cap, cur, h1, h2, h3, h4, h5, h6, h7⟩
  · simp only [Value.slice.injEq] at h1
    omega
  · simp only [Value.slice.injEq] at h1
    obtain ⟨_, _, rfl⟩ := h1
    exact ⟨h4, h5⟩
theorem info9 : (Tryd.prog.info? 9).map (fun i => (i.zero.map (fun z => z.cells.size), i.size, i.bytes)) = some (some 1, 1, 16) := by kernel_rfl
theorem info9_parts : ∃ i z, Tryd.prog.info? 9 = some i ∧ i.zero = some z ∧ i.size = 1 ∧ i.bytes = 16 ∧ z.cells.size = 1 := by
  have h := info9
  cases e : Tryd.prog.info? 9 with
  | none => rw [e] at h; simp at h
  | some i =>
    rw [e] at h
    cases e2 : i.zero with
    | none => simp [e2] at h
    | some z =>
      simp [e2] at h
      exact ⟨i, z, rfl, e2, h.2.1, h.2.2, h.1⟩
/-- One name more. -/
theorem wpList_appS {ops : Array Oper} {rest : List Oper} {o : Oper} {a : Act} {w : World} {Q : Exit → Act → World → Prop} (hgd : o.guard = none) (s x : Operand)
    (ho : o.op = .call { callee := .builtin .append, args := #[s, x], argTypes := #[24, 24] }) (base : Nat) (v : Value) (l : List (List UInt8)) (t : List UInt8) (hs : a.eval s = v) (w0 : World) (h0 : OwnS w0 base l v) (hw0 : w0.alloc (.cells #[.string ⟨t.toArray⟩] 9) = w)
    (hx : a.eval x = .slice (some ⟨w0.heap.size, 0, none⟩) 1 1) (h63 : l.length ≤ 1000000) (hbase : base ≤ w0.heap.size)
    (h : ∀ g cap w', OwnS w' base (l ++ [t]) (.slice (some ⟨g, 0, none⟩) (l.length + 1) cap) → w0.grownBy w' v.ownBlock → wpList Tryd.prog ops Q rest (a.put o.dst (.slice (some ⟨g, 0, none⟩) (l.length + 1) cap)) w') : wpList Tryd.prog ops Q (o :: rest) a w := by
  obtain ⟨i, z, hi, hz, hs1, hb1, hz1⟩ := info9_parts
  subst hw0
  have al := below_new w0 (.cells #[.string ⟨t.toArray⟩] 9)
  have hown : OwnS (w0.alloc (.cells #[.string ⟨t.toArray⟩] 9)) base l v := ownsRow_below h0 al
  have hsz : base ≤ (w0.alloc (.cells #[.string ⟨t.toArray⟩] 9)).heap.size := by rw [World.size_alloc]; omega
  refine wpList_append_lies _ hgd s x 24 ho base 9 i _ 1 16 Tryd.underlying24 hi hz hs1 hb1 hz1 (by decide) v l.length (strL l) hs hown ⟨w0.heap.size, 0, none⟩ 1 1 [.string ⟨t.toArray⟩] hx rfl (fun j u hj => ?_) (fun u hu => ?_) (by decide) (by unfold maxLen; omega) (by omega) hsz _ rfl ?_
  · match j, hj with
    | 0, hj =>
      simp at hj
      subst hj
      rw [add0]
      exact (cells_new w0 #[.string ⟨t.toArray⟩] 9).cell 0
  · simp at hu
    subst hu
    rfl
  · intro g cap w' h1 h2 _ _
    refine h g cap w' ?_ ⟨h2.os, h2.tape, h2.output, by have := h2.size; rw [World.size_alloc] at this; omega, fun k hk hn => (h2.block k (by rw [World.size_alloc]; omega) hn).trans (al.block k hk)⟩
    unfold OwnS strL
    rw [List.map_append, List.length_append]
    exact h1
/-- Names as they lie. -/
def SL (w : World) (A : Option Addr) (l : List (List UInt8)) : Prop := ∀ (i : Nat) x, l[i]? = some x → ∃ g, A = some ⟨g, 0, none⟩ ∧ g < w.heap.size ∧ w.cell? ⟨g, i, none⟩ = some (.string ⟨x.toArray⟩)
def sortS (l : List (List UInt8)) : List (List UInt8) := l.mergeSort fun x y => decide (x ≤ y)
theorem sortS_len (l : List (List UInt8)) : (sortS l).length = l.length := List.length_mergeSort _
set_option maxRecDepth 100000 in
theorem sort_any (w : World) (base : Nat) (l : List (List UInt8)) (A : Option Addr) (c : Nat) (h : OwnS w base l (.slice A l.length c)) (hl : l.length ≤ 1000000) :
    Calls Tryd.prog 10 #[.slice A l.length c] w fun e w' => e = .returned (.tuple #[]) ∧ SL w' A (sortS l) ∧ Below base w w' := by
  by_cases hne : l = []
  · subst hne
    refine (Tryd.slices_Sort_string_none A c w).mono ?_
    rintro e w' ⟨rfl, rfl⟩
    exact ⟨rfl, fun i x hx => by simp [sortS] at hx, Below.refl _ _⟩
  · have h' := h
    rcases h.2 with ⟨h1, h2⟩ | ⟨g, cap, cur, h1, h2, h3, h4, h5, h6, h7⟩
    · exact absurd (List.eq_nil_of_length_eq_zero h2) hne
    · simp only [Value.slice.injEq] at h1
      obtain ⟨rfl, _, rfl⟩ := h1
      have hg := (Array.getElem?_eq_some_iff.1 h3).1
      have hH : Holds encStr w g 0 l.toArray := by
        intro j hj
        have hjl : j < l.length := by simpa using hj
        have hx : l[j]? = some l[j] := List.getElem?_eq_getElem hjl
        constructor
        · have hc := World.ownsRow.cells h' (g := g) rfl j (.string ⟨(l[j]).toArray⟩) (by simp [strL, hx])
          rw [add0] at hc
          rw [Nat.zero_add, hc]
          simp [encStr, hjl]
        · simp [World.frozen?, h3]
      refine (Tryd.slices_Sort_string g 0 c l w hH hg (by omega)).mono ?_
      rintro e w' ⟨rfl, n, os, rfl⟩
      have hP := Go.Sort.holds_putRow encStr (Go.Sort.ahead w n) g 0 l.toArray (sortS l).toArray hH (by simp [sortS_len])
      have hPs : (putRow encStr (Go.Sort.ahead w n) g 0 (sortS l).toArray).heap.size = w.heap.size := by simp
      refine ⟨rfl, fun i x hx => ⟨g, rfl, ?_, ?_⟩, ?_⟩
      · show g < ((putRow encStr (Go.Sort.ahead w n) g 0 (sortS l).toArray).heap ++ os).size
        rw [Array.size_append]
        omega
      · have hi := (List.getElem?_eq_some_iff.1 hx).1
        have h8 := (hP i (by simpa using hi)).1
        rw [Nat.zero_add] at h8
        have hlt := block_lt_of_cell h8
        have h9 : (grow (putRow encStr (Go.Sort.ahead w n) g 0 (sortS l).toArray) os).cell? ⟨g, i, none⟩ = (putRow encStr (Go.Sort.ahead w n) g 0 (sortS l).toArray).cell? ⟨g, i, none⟩ := World.cell?_of_block (a := ⟨g, i, none⟩) (by
          show ((putRow encStr (Go.Sort.ahead w n) g 0 (sortS l).toArray).heap ++ os)[g]? = _
          rw [Array.getElem?_append_left hlt])
        refine h9.trans (h8.trans ?_)
        have : (sortS l).toArray[i]! = x := by
          have := (List.getElem?_eq_some_iff.1 hx).2
          simp [hi, this]
        rw [this]
      · refine ⟨rfl, rfl, rfl, ?_, fun k hk => ?_⟩
        · show w.heap.size ≤ ((putRow encStr (Go.Sort.ahead w n) g 0 (sortS l).toArray).heap ++ os).size
          rw [Array.size_append]
          omega
        · show ((putRow encStr (Go.Sort.ahead w n) g 0 (sortS l).toArray).heap ++ os)[k]? = _
          rw [Array.getElem?_append_left (by omega)]
          show (w.heap.modify g _)[k]? = _
          rw [Array.getElem?_modify, if_neg (by omega)]
end Go.Proofs.YtncglgbogplpcaaDoor
