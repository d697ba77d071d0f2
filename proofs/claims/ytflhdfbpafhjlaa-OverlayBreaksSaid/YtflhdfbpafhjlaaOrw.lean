/-
  Rows of items: one more; what they are as slices.
-/
import Derived.Deep.MidRow
import Derived.Test.YtflhdfbpafhjlaaOb
namespace Go.Proofs.Ytflhdfbpafhjlaa
open Go.RowKit Go.Shelf Go.Lib Go.Maps

def rowI : List IT → List Value
  | [] => []
  | x :: r => (itA x).toList ++ rowI r
theorem rowI_app : ∀ l m : List IT, rowI (l ++ m) = rowI l ++ rowI m
  | [], m => by simp [rowI]
  | t :: r, m => by
    show (itA t).toList ++ rowI (r ++ m) = ((itA t).toList ++ rowI r) ++ _
    rw [rowI_app r m]
    simp
theorem rowI_snoc (x : IT) (l : List IT) : rowI (l ++ [x]) = rowI l ++ (itA x).toList := by
  rw [rowI_app]
  simp [rowI]
theorem rowI_len : ∀ l : List IT, (rowI l).length = l.length * 7
  | [] => rfl
  | x :: r => by
    show ((itA x).toList ++ rowI r).length = _
    rw [List.length_append, rowI_len r]
    simp [itA]
    omega
theorem rowI_at : ∀ (l : List IT) (i : Nat) (x : IT), l[i]? = some x → ∀ j, j < 7 → (rowI l)[i * 7 + j]? = (itA x)[j]?
  | [], i, a, h, _, _ => by simp at h
  | x :: l, 0, a, h, j, hj => by
    simp at h
    subst h
    rw [show rowI (x :: l) = (itA x).toList ++ rowI l from rfl, Nat.zero_mul, Nat.zero_add, List.getElem?_append_left (by simpa [itA] using hj)]
    simp
  | x :: l, i + 1, a, h, j, hj => by
    have ih := rowI_at l i a (by simpa using h) j hj
    rw [show rowI (x :: l) = (itA x).toList ++ rowI l from rfl, List.getElem?_append_right (by simp [itA]; omega)]
    rw [← ih]
    congr 1
    simp [itA]
    omega
theorem rowI_one : ∀ (l : List IT), ∀ u ∈ rowI l, u.oneCell' = true
  | [], u, h => by simp [rowI] at h
  | x :: r, u, h => by
    rcases List.mem_append.1 h with h | h
    · simp [itA] at h
      rcases h with rfl | rfl | rfl | rfl | rfl | rfl | rfl <;> rfl
    · exact rowI_one r u h
def OwnIt (w : World) (base : Nat) (l : List IT) (v : Value) : Prop := w.ownsRow base 26 7 v l.length (rowI l)
theorem OwnIt.below {w w' : World} {base : Nat} {l : List IT} {v : Value} (h : OwnIt w base l v) (hb : Below w.heap.size w w') : OwnIt w' base l v := ownsRow_below h hb
theorem ownIt_nil (w : World) (base : Nat) : OwnIt w base [] (.slice none 0 0) := ⟨rfl, .inl ⟨rfl, rfl⟩⟩
theorem OwnIt.lower {w : World} {base b2 : Nat} {l : List IT} {v : Value} (h : OwnIt w base l v) (hb : b2 ≤ base) : OwnIt w b2 l v := by
  refine ⟨h.1, ?_⟩
  rcases h.2 with h2 | ⟨g, cap, cur, h1, h2, h3⟩
  · exact .inl h2
  · exact .inr ⟨g, cap, cur, h1, by omega, h3⟩
/-- Items somewhere. -/
structure IsA (w : World) (B : Nat) (l : List IT) (A : Option Addr) (c : Nat) : Prop where
  le : l.length ≤ c
  mx : c ≤ maxLen
  r : ∀ (i : Nat) (x : IT), l[i]? = some x → ∃ b o, A = some ⟨b, o, none⟩ ∧ b < B ∧ ∀ j u, (itA x)[j]? = some u → w.cell? ⟨b, o + (i * 7 + j), none⟩ = some u
theorem IsA.below {w w' : World} {B : Nat} {l : List IT} {A : Option Addr} {c : Nat} (h : IsA w B l A c) (hb : Below B w w') : IsA w' B l A c :=
  ⟨h.le, h.mx, fun i a ha => by
    obtain ⟨b, o, e, h1, h2⟩ := h.r i a ha
    exact ⟨b, o, e, h1, fun j u hu => (hb.cell (p := ⟨b, _, none⟩) h1).trans (h2 j u hu)⟩⟩
theorem IsA.mono {w : World} {B B' : Nat} {l : List IT} {A : Option Addr} {c : Nat} (h : IsA w B l A c) (hB : B ≤ B') : IsA w B' l A c :=
  ⟨h.le, h.mx, fun i a ha => by
    obtain ⟨b, o, e, h1, h2⟩ := h.r i a ha
    exact ⟨b, o, e, by omega, h2⟩⟩
theorem IsA.on {w w' : World} {l : List IT} {A : Option Addr} {c : Nat} (h : IsA w w.heap.size l A c) (hb : Below w.heap.size w w') : IsA w' w'.heap.size l A c := (h.below hb).mono hb.size
theorem IsA.of_own {w : World} {base : Nat} {l : List IT} {v : Value} (h : OwnIt w base l v) : ∃ A c, v = .slice A l.length c ∧ IsA w w.heap.size l A c := by
  rcases h.2 with ⟨h1, h2⟩ | ⟨g, cap, cur, h1, h2, h3, h4, h5, h6, h7⟩
  · have hn : l = [] := List.eq_nil_of_length_eq_zero h2
    subst hn
    exact ⟨none, 0, by rw [h1]; rfl, ⟨Nat.le_refl _, by unfold maxLen; omega, fun i a ha => by simp at ha⟩⟩
  · refine ⟨_, cap, h1, ⟨h4, h5, fun i a ha => ⟨g, 0, rfl, (Array.getElem?_eq_some_iff.1 h3).1, fun j u hu => ?_⟩⟩⟩
    have hj : j < 7 := by
      have := (Array.getElem?_eq_some_iff.1 hu).1
      simpa [itA] using this
    have c := World.ownsRow.cells h (g := g) (by rw [h1]; rfl) (i * 7 + j) u ((rowI_at l i a ha j hj).trans hu)
    rw [add0] at c
    rw [Nat.zero_add]
    exact c
theorem info26 : (Try.prog.info? 26).map (fun i => (i.zero.map (fun z => z.cells.size), i.size, i.bytes)) = some (some 7, 7, 32) := by kernel_rfl
theorem info26_parts : ∃ i z, Try.prog.info? 26 = some i ∧ i.zero = some z ∧ i.size = 7 ∧ i.bytes = 32 ∧ z.cells.size = 7 := by
  have h := info26
  cases e : Try.prog.info? 26 with
  | none => rw [e] at h; simp at h
  | some i =>
    rw [e] at h
    cases e2 : i.zero with
    | none => simp [e2] at h
    | some z =>
      simp [e2] at h
      exact ⟨i, z, rfl, e2, h.2.1, h.2.2, h.1⟩
/-- One item more. -/
theorem wpList_appI {ops : Array Oper} {rest : List Oper} {o : Oper} {a : Act} {w : World} {Q : Exit → Act → World → Prop} (hgd : o.guard = none) (s x : Operand)
    (ho : o.op = .call { callee := .builtin .append, args := #[s, x], argTypes := #[35, 35] }) (base : Nat) (v : Value) (l : List IT) (t : IT) (hs : a.eval s = v) (w0 : World) (h0 : OwnIt w0 base l v) (hw0 : w0.alloc (.cells (itA t) 26) = w)
    (hx : a.eval x = .slice (some ⟨w0.heap.size, 0, none⟩) 1 1) (h63 : l.length ≤ 1000000) (hbase : base ≤ w0.heap.size)
    (h : ∀ g cap w', OwnIt w' base (l ++ [t]) (.slice (some ⟨g, 0, none⟩) (l.length + 1) cap) → Below base w0 w' → (∀ k, k < w0.heap.size → v.ownBlock ≠ some k → w'.heap[k]? = w0.heap[k]?) → wpList Try.prog ops Q rest (a.put o.dst (.slice (some ⟨g, 0, none⟩) (l.length + 1) cap)) w') :
    wpList Try.prog ops Q (o :: rest) a w := by
  obtain ⟨i, z, hi, hz, hs1, hb1, hz1⟩ := info26_parts
  subst hw0
  have al := below_new w0 (.cells (itA t) 26)
  have hown := h0.below al
  have hsz : base ≤ (w0.alloc (.cells (itA t) 26)).heap.size := by rw [World.size_alloc]; omega
  refine wpList_append_lies _ hgd s x 35 ho base 26 i _ 7 32 Try.underlying35 hi hz hs1 hb1 hz1 (by decide) v l.length (rowI l) hs hown ⟨w0.heap.size, 0, none⟩ 1 1 (itA t).toList hx rfl (World.news_of_block (by simpa using heap_alloc_new w0 (.cells (itA t) 26))) (fun u hu => ?_) (by decide) (by unfold maxLen; omega) (by omega) hsz _ rfl ?_
  · simp [itA] at hu
    rcases hu with rfl | rfl | rfl | rfl | rfl | rfl | rfl <;> rfl
  · intro g cap w' h1 h2 _ _
    refine h g cap w' ?_ ?_ (fun k hk hn => (h2.block k (by rw [World.size_alloc]; omega) (fun e => hn e.symm)).trans (al.block k hk))
    · unfold OwnIt
      rw [rowI_snoc, List.length_append]
      exact h1
    · refine (al.mono hbase).trans ⟨h2.os, h2.tape, h2.output, h2.size, fun k hk => h2.block k (by omega) (fun e => by have := (own_block_lt hown k e.symm).1; omega)⟩
/-- Items one behind another, of two lists. -/
theorem wpList_appIs {ops : Array Oper} {rest : List Oper} {o : Oper} {a : Act} {w : World} {Q : Exit → Act → World → Prop} (hgd : o.guard = none) (s x : Operand)
    (ho : o.op = .call { callee := .builtin .append, args := #[s, x], argTypes := #[35, 35] }) (base : Nat) (v : Value) (l m : List IT) (hs : a.eval s = v) (h0 : OwnIt w base l v) (A : Option Addr) (c : Nat) (hm : IsA w w.heap.size m A c) (hne : m ≠ [])
    (hx : a.eval x = .slice A m.length c) (h63 : l.length + m.length ≤ 1000000) (hbase : base ≤ w.heap.size)
    (h : ∀ g cap w', OwnIt w' base (l ++ m) (.slice (some ⟨g, 0, none⟩) (l.length + m.length) cap) → w.grownBy w' v.ownBlock → wpList Try.prog ops Q rest (a.put o.dst (.slice (some ⟨g, 0, none⟩) (l.length + m.length) cap)) w') :
    wpList Try.prog ops Q (o :: rest) a w := by
  obtain ⟨i, z, hi, hz, hs1, hb1, hz1⟩ := info26_parts
  have hlen : 0 < m.length := List.length_pos_iff.2 hne
  obtain ⟨b, o', rfl, hbl, _⟩ := hm.r 0 m[0] (List.getElem?_eq_getElem hlen)
  refine wpList_append_lies _ hgd s x 35 ho base 26 i _ 7 32 Try.underlying35 hi hz hs1 hb1 hz1 (by decide) v l.length (rowI l) hs h0 ⟨b, o', none⟩ m.length c (rowI m) hx (rowI_len m) (fun j u hu => ?_) (rowI_one m) hlen (by unfold maxLen; omega) (by omega) hbase _ rfl ?_
  · have hj : j < m.length * 7 := by have := (List.getElem?_eq_some_iff.1 hu).1; rwa [rowI_len] at this
    have hd : j / 7 < m.length := by omega
    obtain ⟨b', o2, e, _, hc⟩ := hm.r (j / 7) m[j / 7] (List.getElem?_eq_getElem hd)
    cases e
    have e2 := rowI_at m (j / 7) _ (List.getElem?_eq_getElem hd) (j % 7) (by omega)
    rw [show j / 7 * 7 + j % 7 = j by omega, hu] at e2
    have := hc (j % 7) u e2.symm
    rw [Addr.add_mid, show o' + j = o' + (j / 7 * 7 + j % 7) by omega]
    exact this
  · intro g cap w' h1 h2 _ _
    refine h g cap w' ?_ h2
    unfold OwnIt
    rw [rowI_app, List.length_append]
    exact h1
end Go.Proofs.Ytflhdfbpafhjlaa
