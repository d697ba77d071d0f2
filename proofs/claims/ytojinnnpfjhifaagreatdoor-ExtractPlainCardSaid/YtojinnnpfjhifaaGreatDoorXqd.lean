/-
  Rows of items: one more; what they are as slices.
  PLAIN LEAN, no program in it: what is read at a place of some bytes (a scalar, how many bytes it has, whether it is whole), by classes of the first byte; that the library's decoding with the search for the broken size comes to it; that the document's own 'beginning of a sequence' comes to it.
  A contract of the library's at this program: unicode/utf8.DecodeRune.
  Contracts of unicode/utf8.FullRune, at two bytes and more.
  Contracts: unicode/utf8.FullRune at two bytes and more, in one; scalar.brokenSize.
  Contracts: unicode/utf8.DecodeRune at bytes that are there; scalar.decode.
  Contracts: scalar.Next, scalar.Put.
  Contract: Extractor.text.
  Contract: Extractor.Take.
-/
import Derived.Deep.MidRow
import Derived.Test.YtojinnnpfjhifaaGreatDoorXqc
import Derived.Lib.DecodeNEq
import Derived.Shelf.Small.Utf8
import Derived.Shelf.Spec.DecodeRune
import Derived.Test.YtojinnnpfjhifaaGreatDoorXqb
import Derived.WalkKit
import Derived.BigQuiet
import Derived.Deep.QuietTactic
import Derived.Outline
import Derived.Lib.Hide
import Derived.Below
import Derived.Laws.IdiomStrings
import Derived.Laws.OwnMore
import Derived.Lib.RuneBytes
import Derived.Maps.AppendAt
import Derived.Deep.CutRange
import Derived.Deep.RegionLaw
import Derived.BigRegion
namespace Go.Proofs.YtojinnnpfjhifaaGreatDoor.K
open Go.RowKit Go.Shelf Go.Lib Go.Maps

def rowI : List IT → List Value
  | [] => []
  | x :: r => (itA x).toList ++ rowI r
theorem rowI_app : ∀ l m : List IT, rowI (l ++ m) = rowI l ++ rowI m
  | [], m => by simp [rowI]
  | t :: r, m => by
    show (itA t).toList ++ rowI (r ++ m) = ((itA t).toList ++ rowI r) ++ _
    rw [rowI_app r m]
    simp
theorem rowI_snoc (x : IT) (l : List IT) : rowI (l ++ [x]) = rowI l ++ (itA x).toList := by
  rw [rowI_app]
  simp [rowI]
theorem rowI_len : ∀ l : List IT, (rowI l).length = l.length * 7
  | [] => rfl
  | x :: r => by
    show ((itA x).toList ++ rowI r).length = _
    rw [List.length_append, rowI_len r]
    simp [itA]
    omega
theorem rowI_at : ∀ (l : List IT) (i : Nat) (x : IT), l[i]? = some x → ∀ j, j < 7 → (rowI l)[i * 7 + j]? = (itA x)[j]?
  | [], i, a, h, _, _ => by simp at h
  | x :: l, 0, a, h, j, hj => by
    simp at h
    subst h
    rw [show rowI (x :: l) = (itA x).toList ++ rowI l from rfl, Nat.zero_mul, Nat.zero_add, List.getElem?_append_left (by simpa [itA] using hj)]
    simp
  | x :: l, i + 1, a, h, j, hj => by
    have ih := rowI_at l i a (by simpa using h) j hj
    rw [show rowI (x :: l) = (itA x).toList ++ rowI l from rfl, List.getElem?_append_right (by simp [itA]; omega)]
    rw [← ih]
    congr 1
    simp [itA]
    omega
theorem rowI_one : ∀ (l : List IT), ∀ u ∈ rowI l, u.oneCell' = true
  | [], u, h => by simp [rowI] at h
  | x :: r, u, h => by
    rcases List.mem_append.1 h with h | h
    · simp [itA] at h
      rcases h with rfl | rfl | rfl | rfl | rfl | rfl | rfl <;> rfl
    · exact rowI_one r u h
def OwnIt (w : World) (base : Nat) (l : List IT) (v : Value) : Prop := w.ownsRow base 42 7 v l.length (rowI l)
theorem OwnIt.below {w w' : World} {base : Nat} {l : List IT} {v : Value} (h : OwnIt w base l v) (hb : Below w.heap.size w w') : OwnIt w' base l v := ownsRow_below h hb
theorem ownIt_nil (w : World) (base : Nat) : OwnIt w base [] (.slice none 0 0) := ⟨rfl, .inl ⟨rfl, rfl⟩⟩
theorem OwnIt.lower {w : World} {base b2 : Nat} {l : List IT} {v : Value} (h : OwnIt w base l v) (hb : b2 ≤ base) : OwnIt w b2 l v := by
  refine ⟨h.1, ?_⟩
  rcases h.2 with h2 | ⟨g, cap, cur, h1, h2, h3⟩
  · exact .inl h2
  · exact .inr ⟨g, cap, cur, h1, by omega, h3⟩
/-- Items somewhere. -/
structure IsA (w : World) (B : Nat) (l : List IT) (A : Option Addr) (c : Nat) : Prop where
  le : l.length ≤ c
  mx : c ≤ maxLen
  r : ∀ (i : Nat) (x : IT), l[i]? = some x → ∃ b o, A = some ⟨b, o, none⟩ ∧ b < B ∧ ∀ j u, (itA x)[j]? = some u → w.cell? ⟨b, o + (i * 7 + j), none⟩ = some u
theorem IsA.below {w w' : World} {B : Nat} {l : List IT} {A : Option Addr} {c : Nat} (h : IsA w B l A c) (hb : Below B w w') : IsA w' B l A c :=
  ⟨h.le, h.mx, fun i a ha => by
    obtain ⟨b, o, e, h1, h2⟩ := h.r i a ha
    exact ⟨b, o, e, h1, fun j u hu => (hb.cell (p := ⟨b, _, none⟩) h1).trans (h2 j u hu)⟩⟩
theorem IsA.mono {w : World} {B B' : Nat} {l : List IT} {A : Option Addr} {c : Nat} (h : IsA w B l A c) (hB : B ≤ B') : IsA w B' l A c :=
  ⟨h.le, h.mx, fun i a ha => by
    obtain ⟨b, o, e, h1, h2⟩ := h.r i a ha
    exact ⟨b, o, e, by omega, h2⟩⟩
theorem IsA.on {w w' : World} {l : List IT} {A : Option Addr} {c : Nat} (h : IsA w w.heap.size l A c) (hb : Below w.heap.size w w') : IsA w' w'.heap.size l A c := (h.below hb).mono hb.size
theorem IsA.of_own {w : World} {base : Nat} {l : List IT} {v : Value} (h : OwnIt w base l v) : ∃ A c, v = .slice A l.length c ∧ IsA w w.heap.size l A c := by
  rcases h.2 with ⟨h1, h2⟩ | ⟨g, cap, cur, h1, h2, h3, h4, h5, h6, h7⟩
  · have hn : l = [] := List.eq_nil_of_length_eq_zero h2
    subst hn
    exact ⟨none, 0, by rw [h1]; rfl, ⟨Nat.le_refl _, by unfold maxLen; omega, fun i a ha => by simp at ha⟩⟩
  · refine ⟨_, cap, h1, ⟨h4, h5, fun i a ha => ⟨g, 0, rfl, (Array.getElem?_eq_some_iff.1 h3).1, fun j u hu => ?_⟩⟩⟩
    have hj : j < 7 := by
      have := (Array.getElem?_eq_some_iff.1 hu).1
      simpa [itA] using this
    have c := World.ownsRow.cells h (g := g) (by rw [h1]; rfl) (i * 7 + j) u ((rowI_at l i a ha j hj).trans hu)
    rw [add0] at c
    rw [Nat.zero_add]
    exact c
theorem info42 : (Tryz.prog.info? 42).map (fun i => (i.zero.map (fun z => z.cells.size), i.size, i.bytes)) = some (some 7, 7, 32) := by kernel_rfl
theorem info42_parts : ∃ i z, Tryz.prog.info? 42 = some i ∧ i.zero = some z ∧ i.size = 7 ∧ i.bytes = 32 ∧ z.cells.size = 7 := by
  have h := info42
  cases e : Tryz.prog.info? 42 with
  | none => rw [e] at h; simp at h
  | some i =>
    rw [e] at h
    cases e2 : i.zero with
    | none => simp [e2] at h
    | some z =>
      simp [e2] at h
      exact ⟨i, z, rfl, e2, h.2.1, h.2.2, h.1⟩
/-- One item more. -/
theorem wpList_appI {ops : Array Oper} {rest : List Oper} {o : Oper} {a : Act} {w : World} {Q : Exit → Act → World → Prop} (hgd : o.guard = none) (s x : Operand)
    (ho : o.op = .call { callee := .builtin .append, args := #[s, x], argTypes := #[24, 24] }) (base : Nat) (v : Value) (l : List IT) (t : IT) (hs : a.eval s = v) (w0 : World) (h0 : OwnIt w0 base l v) (hw0 : w0.alloc (.cells (itA t) 42) = w)
    (hx : a.eval x = .slice (some ⟨w0.heap.size, 0, none⟩) 1 1) (h63 : l.length ≤ 1000000) (hbase : base ≤ w0.heap.size)
    (h : ∀ g cap w', OwnIt w' base (l ++ [t]) (.slice (some ⟨g, 0, none⟩) (l.length + 1) cap) → Below base w0 w' → (∀ k, k < w0.heap.size → v.ownBlock ≠ some k → w'.heap[k]? = w0.heap[k]?) → wpList Tryz.prog ops Q rest (a.put o.dst (.slice (some ⟨g, 0, none⟩) (l.length + 1) cap)) w') :
    wpList Tryz.prog ops Q (o :: rest) a w := by
  obtain ⟨i, z, hi, hz, hs1, hb1, hz1⟩ := info42_parts
  subst hw0
  have al := below_new w0 (.cells (itA t) 42)
  have hown := h0.below al
  have hsz : base ≤ (w0.alloc (.cells (itA t) 42)).heap.size := by rw [World.size_alloc]; omega
  refine wpList_append_lies _ hgd s x 24 ho base 42 i _ 7 32 Tryz.underlying24 hi hz hs1 hb1 hz1 (by decide) v l.length (rowI l) hs hown ⟨w0.heap.size, 0, none⟩ 1 1 (itA t).toList hx rfl (World.news_of_block (by simpa using heap_alloc_new w0 (.cells (itA t) 42))) (fun u hu => ?_) (by decide) (by unfold maxLen; omega) (by omega) hsz _ rfl ?_
  · simp [itA] at hu
    rcases hu with rfl | rfl | rfl | rfl | rfl | rfl | rfl <;> rfl
  · intro g cap w' h1 h2 _ _
    refine h g cap w' ?_ ?_ (fun k hk hn => (h2.block k (by rw [World.size_alloc]; omega) (fun e => hn e.symm)).trans (al.block k hk))
    · unfold OwnIt
      rw [rowI_snoc, List.length_append]
      exact h1
    · refine (al.mono hbase).trans ⟨h2.os, h2.tape, h2.output, h2.size, fun k hk => h2.block k (by omega) (fun e => by have := (own_block_lt hown k e.symm).1; omega)⟩
/-- Items one behind another, of two lists. -/
theorem wpList_appIs {ops : Array Oper} {rest : List Oper} {o : Oper} {a : Act} {w : World} {Q : Exit → Act → World → Prop} (hgd : o.guard = none) (s x : Operand)
    (ho : o.op = .call { callee := .builtin .append, args := #[s, x], argTypes := #[24, 24] }) (base : Nat) (v : Value) (l m : List IT) (hs : a.eval s = v) (h0 : OwnIt w base l v) (A : Option Addr) (c : Nat) (hm : IsA w w.heap.size m A c) (hne : m ≠ [])
    (hx : a.eval x = .slice A m.length c) (h63 : l.length + m.length ≤ 1000000) (hbase : base ≤ w.heap.size)
    (h : ∀ g cap w', OwnIt w' base (l ++ m) (.slice (some ⟨g, 0, none⟩) (l.length + m.length) cap) → w.grownBy w' v.ownBlock → wpList Tryz.prog ops Q rest (a.put o.dst (.slice (some ⟨g, 0, none⟩) (l.length + m.length) cap)) w') :
    wpList Tryz.prog ops Q (o :: rest) a w := by
  obtain ⟨i, z, hi, hz, hs1, hb1, hz1⟩ := info42_parts
  have hlen : 0 < m.length := List.length_pos_iff.2 hne
  obtain ⟨b, o', rfl, hbl, _⟩ := hm.r 0 m[0] (List.getElem?_eq_getElem hlen)
  refine wpList_append_lies _ hgd s x 24 ho base 42 i _ 7 32 Tryz.underlying24 hi hz hs1 hb1 hz1 (by decide) v l.length (rowI l) hs h0 ⟨b, o', none⟩ m.length c (rowI m) hx (rowI_len m) (fun j u hu => ?_) (rowI_one m) hlen (by unfold maxLen; omega) (by omega) hbase _ rfl ?_
  · have hj : j < m.length * 7 := by have := (List.getElem?_eq_some_iff.1 hu).1; rwa [rowI_len] at this
    have hd : j / 7 < m.length := by omega
    obtain ⟨b', o2, e, _, hc⟩ := hm.r (j / 7) m[j / 7] (List.getElem?_eq_getElem hd)
    cases e
    have e2 := rowI_at m (j / 7) _ (List.getElem?_eq_getElem hd) (j % 7) (by omega)
    rw [show j / 7 * 7 + j % 7 = j by omega, hu] at e2
    have := hc (j % 7) u e2.symm
    rw [Addr.add_mid, show o' + j = o' + (j / 7 * 7 + j % 7) by omega]
    exact this
  · intro g cap w' h1 h2 _ _
    refine h g cap w' ?_ h2
    unfold OwnIt
    rw [rowI_app, List.length_append]
    exact h1
end Go.Proofs.YtojinnnpfjhifaaGreatDoor.K

namespace Go.Proofs.YtojinnnpfjhifaaGreatDoor.S
open Go.Lib
namespace M1

/-- What is read where the first byte begins a sequence of sz bytes, the second one between lo and hi. -/
def pieceS (n b0 b1 b2 b3 sz lo hi : Nat) : Nat × Nat × Bool :=
  if 1 < n ∧ lo ≤ b1 ∧ b1 ≤ hi then
    (if sz = 2 then (b0 % 32 * 64 + b1 % 64, 2, true)
     else if 2 < n ∧ 128 ≤ b2 ∧ b2 ≤ 191 then
      (if sz = 3 then (b0 % 16 * 4096 + b1 % 64 * 64 + b2 % 64, 3, true)
       else if 3 < n ∧ 128 ≤ b3 ∧ b3 ≤ 191 then (b0 % 8 * 262144 + b1 % 64 * 4096 + b2 % 64 * 64 + b3 % 64, 4, true)
       else (65533, 3, false))
     else (65533, 2, false))
  else (65533, 1, false)

/-- What is read of n bytes (n at least 1) that begin b0, b1, b2, b3. -/
def pieceB (n b0 b1 b2 b3 : Nat) : Nat × Nat × Bool :=
  if firstT b0 = 240 then (b0, 1, true)
  else if firstT b0 = 241 then (65533, 1, false)
  else pieceS n b0 b1 b2 b3 (firstT b0 % 8) (accLo (firstT b0 / 16)) (accHi (firstT b0 / 16))

/-- utf8.FullRune of k bytes (k at least 1) that begin b0, b1, b2. -/
def fullS (k b1 b2 sz lo hi : Nat) : Bool :=
  if sz ≤ k then true
  else if 1 < k ∧ (b1 < lo ∨ hi < b1) then true
  else if 2 < k ∧ (b2 < 128 ∨ 191 < b2) then true
  else false
def fullB (k b0 b1 b2 : Nat) : Bool := fullS k b1 b2 (firstT b0 % 8) (accLo (firstT b0 / 16)) (accHi (firstT b0 / 16))

/-- What the search for the broken size ends with. -/
def Brk (n b0 b1 b2 k : Nat) : Prop := 1 ≤ k ∧ k ≤ n ∧ (∀ j, 2 ≤ j → j ≤ k → fullB j b0 b1 b2 = false) ∧ (k < n → fullB (k + 1) b0 b1 b2 = true)

theorem pieceS_size (n b0 b1 b2 b3 sz lo hi : Nat) (hn : 1 ≤ n) : 1 ≤ (pieceS n b0 b1 b2 b3 sz lo hi).2.1 ∧ (pieceS n b0 b1 b2 b3 sz lo hi).2.1 ≤ n ∧ (pieceS n b0 b1 b2 b3 sz lo hi).2.1 ≤ 4 := by
  unfold pieceS
  repeat' split
  all_goals (simp; try omega)
theorem pieceB_size (n b0 b1 b2 b3 : Nat) (hn : 1 ≤ n) : 1 ≤ (pieceB n b0 b1 b2 b3).2.1 ∧ (pieceB n b0 b1 b2 b3).2.1 ≤ n ∧ (pieceB n b0 b1 b2 b3).2.1 ≤ 4 := by
  unfold pieceB
  split
  · simp; omega
  · split
    · simp; omega
    · exact pieceS_size _ _ _ _ _ _ _ _ hn

theorem firstCases (b : Nat) : firstT b = 240 ∨ firstT b = 241 ∨ firstT b = 2 ∨ firstT b = 19 ∨ firstT b = 3 ∨ firstT b = 35 ∨ firstT b = 52 ∨ firstT b = 4 ∨ firstT b = 68 := by
  unfold firstT
  repeat' split
  all_goals simp

theorem low_of {b0 : Nat} (h1 : ¬ firstT b0 = 240) (h2 : ¬ firstT b0 = 241) : firstT b0 < 240 := by
  rcases firstCases b0 with h | h | h | h | h | h | h | h | h <;> omega

theorem sz_of {b0 : Nat} (h : firstT b0 < 240) : firstT b0 % 8 = 2 ∨ firstT b0 % 8 = 3 ∨ firstT b0 % 8 = 4 := by
  rcases firstCases b0 with h | h | h | h | h | h | h | h | h <;> omega

theorem pieceS_whole (n b0 b1 b2 b3 sz lo hi : Nat) (hs : sz = 2 ∨ sz = 3 ∨ sz = 4) (h : (pieceS n b0 b1 b2 b3 sz lo hi).2.2 = true) :
    slowN n b0 b1 b2 b3 sz lo hi = ((pieceS n b0 b1 b2 b3 sz lo hi).1, (pieceS n b0 b1 b2 b3 sz lo hi).2.1) ∧ 2 ≤ (pieceS n b0 b1 b2 b3 sz lo hi).2.1 := by
  unfold pieceS at *
  by_cases c1 : 1 < n ∧ lo ≤ b1 ∧ b1 ≤ hi
  · rw [if_pos c1] at h ⊢
    rcases hs with rfl | rfl | rfl
    · unfold slowN
      rw [if_neg (by omega), if_neg (by omega), if_pos (by omega)]
      simp
    · by_cases c2 : 2 < n ∧ 128 ≤ b2 ∧ b2 ≤ 191
      · unfold slowN
        rw [if_neg (by omega), if_neg (by omega), if_neg (by omega), if_neg (by omega), if_pos (by omega), if_neg (by omega), if_pos c2]
        simp
      · rw [if_neg (by omega), if_neg c2] at h
        simp at h
    · by_cases c2 : 2 < n ∧ 128 ≤ b2 ∧ b2 ≤ 191
      · by_cases c3 : 3 < n ∧ 128 ≤ b3 ∧ b3 ≤ 191
        · unfold slowN
          rw [if_neg (by omega), if_neg (by omega), if_neg (by omega), if_neg (by omega), if_neg (by omega), if_neg (by omega), if_neg (by omega), if_pos c2, if_neg (by omega), if_pos c3]
          simp
        · rw [if_neg (by omega), if_pos c2, if_neg (by omega), if_neg c3] at h
          simp at h
      · rw [if_neg (by omega), if_neg c2] at h
        simp at h
  · rw [if_neg c1] at h
    simp at h

theorem pieceB_whole (n b0 b1 b2 b3 : Nat) (hn : 1 ≤ n) (h1 : b1 < 256) (h2 : b2 < 256) (h3 : b3 < 256) (h : (pieceB n b0 b1 b2 b3).2.2 = true) :
    decodeN n b0 b1 b2 b3 = ((pieceB n b0 b1 b2 b3).1, (pieceB n b0 b1 b2 b3).2.1) ∧ ((pieceB n b0 b1 b2 b3).1 ≠ 65533 ∨ (pieceB n b0 b1 b2 b3).2.1 ≠ 1) := by
  by_cases c0 : firstT b0 = 240
  · have hb : b0 < 128 := by
      unfold firstT at c0
      repeat' split at c0
      all_goals omega
    rw [ascii_eq n b0 b1 b2 b3 c0]
    unfold pieceB
    rw [if_pos c0]
    exact ⟨rfl, .inl (by show b0 ≠ 65533; omega)⟩
  · by_cases c1 : firstT b0 = 241
    · unfold pieceB at h
      rw [if_neg c0, if_pos c1] at h
      simp at h
    · have hl := low_of c0 c1
      unfold pieceB at h ⊢
      rw [if_neg c0, if_neg c1] at h ⊢
      obtain ⟨e, hsz⟩ := pieceS_whole n b0 b1 b2 b3 _ _ _ (sz_of hl) h
      rw [slow_eq n b0 b1 b2 b3 hn h1 h2 h3 hl] at e
      exact ⟨e, .inr (by omega)⟩

theorem pieceS_broken (n b0 b1 b2 b3 sz lo hi : Nat) (hs : sz = 2 ∨ sz = 3 ∨ sz = 4) (h : (pieceS n b0 b1 b2 b3 sz lo hi).2.2 = false) :
    slowN n b0 b1 b2 b3 sz lo hi = (65533, 1) ∧ (pieceS n b0 b1 b2 b3 sz lo hi).1 = 65533 := by
  unfold pieceS at *
  by_cases c1 : 1 < n ∧ lo ≤ b1 ∧ b1 ≤ hi
  · rw [if_pos c1] at h ⊢
    rcases hs with rfl | rfl | rfl
    · simp at h
    · by_cases c2 : 2 < n ∧ 128 ≤ b2 ∧ b2 ≤ 191
      · rw [if_neg (by omega), if_pos c2] at h
        simp at h
      · rw [if_neg (by omega), if_neg c2]
        unfold slowN
        by_cases c4 : n < 3
        · rw [if_pos c4]; simp
        · rw [if_neg c4, if_neg (by omega), if_neg (by omega), if_pos (by omega)]; simp
    · by_cases c2 : 2 < n ∧ 128 ≤ b2 ∧ b2 ≤ 191
      · by_cases c3 : 3 < n ∧ 128 ≤ b3 ∧ b3 ≤ 191
        · rw [if_neg (by omega), if_pos c2, if_neg (by omega), if_pos c3] at h
          simp at h
        · rw [if_neg (by omega), if_pos c2, if_neg (by omega), if_neg c3]
          unfold slowN
          by_cases c4 : n < 4
          · rw [if_pos c4]; simp
          · rw [if_neg c4, if_neg (by omega), if_neg (by omega), if_neg (by omega), if_neg (by omega), if_pos (by omega)]; simp
      · rw [if_neg (by omega), if_neg c2]
        unfold slowN
        by_cases c4 : n < 4
        · rw [if_pos c4]; simp
        · rw [if_neg c4, if_neg (by omega), if_neg (by omega), if_pos (by omega)]; simp
  · rw [if_neg c1]
    unfold slowN
    by_cases c4 : n < sz
    · rw [if_pos c4]; simp
    · rw [if_neg c4, if_pos (by omega)]; simp

theorem pieceB_broken (n b0 b1 b2 b3 : Nat) (hn : 1 ≤ n) (h0 : b0 < 256) (h1 : b1 < 256) (h2 : b2 < 256) (h3 : b3 < 256) (h : (pieceB n b0 b1 b2 b3).2.2 = false) :
    decodeN n b0 b1 b2 b3 = (65533, 1) ∧ (pieceB n b0 b1 b2 b3).1 = 65533 := by
  by_cases c0 : firstT b0 = 240
  · unfold pieceB at h
    rw [if_pos c0] at h
    simp at h
  · by_cases c1 : firstT b0 = 241
    · refine ⟨bad_eq n b0 b1 b2 b3 h0 c1, ?_⟩
      unfold pieceB
      rw [if_neg c0, if_pos c1]
    · have hl := low_of c0 c1
      unfold pieceB at h ⊢
      rw [if_neg c0, if_neg c1] at h ⊢
      obtain ⟨e, hsz⟩ := pieceS_broken n b0 b1 b2 b3 _ _ _ (sz_of hl) h
      rw [slow_eq n b0 b1 b2 b3 hn h1 h2 h3 hl] at e
      exact ⟨e, hsz⟩

/-- THE SEARCH FOR THE BROKEN SIZE ENDS WITH THE PIECE's SIZE. -/
theorem brk_size (n b0 b1 b2 b3 k : Nat) (hn : 1 ≤ n) (h : (pieceB n b0 b1 b2 b3).2.2 = false) (hk : Brk n b0 b1 b2 k) : k = (pieceB n b0 b1 b2 b3).2.1 := by
  obtain ⟨k1, kn, kf, kt⟩ := hk
  by_cases c0 : firstT b0 = 240
  · unfold pieceB at h
    rw [if_pos c0] at h
    simp at h
  · by_cases c1 : firstT b0 = 241
    · have e : (pieceB n b0 b1 b2 b3).2.1 = 1 := by unfold pieceB; rw [if_neg c0, if_pos c1]
      rw [e]
      rcases Nat.lt_or_ge 1 k with hk | hk
      · have := kf 2 (by omega) (by omega)
        unfold fullB fullS at this
        rw [c1, if_pos (by omega)] at this
        simp at this
      · omega
    · have hl := low_of c0 c1
      have hs := sz_of hl
      unfold pieceB at h ⊢
      rw [if_neg c0, if_neg c1] at h ⊢
      unfold fullB at kf kt
      generalize firstT b0 % 8 = sz at *
      generalize accLo (firstT b0 / 16) = lo at *
      generalize accHi (firstT b0 / 16) = hi at *
      have f2 : ¬ (2 ≤ k ∧ sz ≤ 2) := fun ⟨a, b⟩ => by
        have := kf 2 (by omega) a
        unfold fullS at this
        rw [if_pos b] at this; simp at this
      have f3 : ¬ (3 ≤ k ∧ sz ≤ 3) := fun ⟨a, b⟩ => by
        have := kf 3 (by omega) a
        unfold fullS at this
        rw [if_pos b] at this; simp at this
      have f4 : ¬ 4 ≤ k := fun a => by
        have := kf 4 (by omega) a
        unfold fullS at this
        rw [if_pos (by omega)] at this; simp at this
      have g1 : 2 ≤ k → lo ≤ b1 ∧ b1 ≤ hi := fun a => by
        have := kf 2 (by omega) a
        unfold fullS at this
        by_cases q : sz ≤ 2
        · exact (f2 ⟨a, q⟩).elim
        · rw [if_neg q] at this
          by_cases q2 : 1 < 2 ∧ (b1 < lo ∨ hi < b1)
          · rw [if_pos q2] at this; simp at this
          · omega
      have g2 : 3 ≤ k → 128 ≤ b2 ∧ b2 ≤ 191 := fun a => by
        have := kf 3 (by omega) a
        have q1 := g1 (by omega)
        unfold fullS at this
        by_cases q : sz ≤ 3
        · exact (f3 ⟨a, q⟩).elim
        · rw [if_neg q, if_neg (by omega)] at this
          by_cases q2 : 2 < 3 ∧ (b2 < 128 ∨ 191 < b2)
          · rw [if_pos q2] at this; simp at this
          · omega
      have t1 : k = 1 → 1 < n → sz ≤ 2 ∨ b1 < lo ∨ hi < b1 := fun a b => by
        have := kt (by omega)
        subst a
        unfold fullS at this
        by_cases q : sz ≤ 1 + 1
        · omega
        · rw [if_neg q] at this
          by_cases q2 : 1 < 1 + 1 ∧ (b1 < lo ∨ hi < b1)
          · omega
          · rw [if_neg q2, if_neg (by omega)] at this; simp at this
      have t2 : k = 2 → 2 < n → sz ≤ 3 ∨ b2 < 128 ∨ 191 < b2 := fun a b => by
        have := kt (by omega)
        have q1 := g1 (by omega)
        subst a
        unfold fullS at this
        by_cases q : sz ≤ 2 + 1
        · omega
        · rw [if_neg q, if_neg (by omega)] at this
          by_cases q2 : 2 < 2 + 1 ∧ (b2 < 128 ∨ 191 < b2)
          · omega
          · rw [if_neg q2] at this; simp at this
      unfold pieceS at h ⊢
      by_cases c1 : 1 < n ∧ lo ≤ b1 ∧ b1 ≤ hi
      · rw [if_pos c1] at h ⊢
        rcases hs with rfl | rfl | rfl
        · simp at h
        · by_cases c2 : 2 < n ∧ 128 ≤ b2 ∧ b2 ≤ 191
          · rw [if_neg (by omega), if_pos c2] at h
            simp at h
          · rw [if_neg (by omega), if_neg c2]
            show k = 2
            omega
        · by_cases c2 : 2 < n ∧ 128 ≤ b2 ∧ b2 ≤ 191
          · by_cases c3 : 3 < n ∧ 128 ≤ b3 ∧ b3 ≤ 191
            · rw [if_neg (by omega), if_pos c2, if_neg (by omega), if_pos c3] at h
              simp at h
            · rw [if_neg (by omega), if_pos c2, if_neg (by omega), if_neg c3]
              show k = 3
              omega
          · rw [if_neg (by omega), if_neg c2]
            show k = 2
            omega
      · rw [if_neg c1]
        show k = 1
        omega

end M1
end Go.Proofs.YtojinnnpfjhifaaGreatDoor.S

namespace Go.Proofs
open Go.Shelf
def Tryz.lays32_ren : Go.Shelf.Ren := ⟨fun | 32 => 70 | 49 => 84 | n => n, fun | 30 => 22 | 21 => 21 | 3 => 3 | 0 => 0 | 5 => 5 | 4 => 4 | 33 => 88 | 66 => 160 | 25 => 106 | 69 => 163 | 68 => 162 | n => n, fun | 2 => 1 | 3 => 2 | n => n⟩
theorem Tryz.lays32 : Go.Proofs.Lays7.n32 Tryz.prog Tryz.lays32_ren := {
  mixed := by kernel_rfl
  f32 := Tryz.func70.trans (congrArg some (by kernel_rfl))
  f49 := Tryz.func84.trans (congrArg some (by kernel_rfl))
  t0 := Tryz.underlying0
  a0 := Tryz.isAgg0
  z0 := Tryz.sizeOf0
  v0 := Tryz.zeroValue0
  i0 := by kernel_rfl
  t3 := Tryz.underlying3
  a3 := Tryz.isAgg3
  z3 := Tryz.sizeOf3
  v3 := Tryz.zeroValue3
  i3 := by kernel_rfl
  t4 := Tryz.underlying4
  a4 := Tryz.isAgg4
  z4 := Tryz.sizeOf4
  v4 := Tryz.zeroValue4
  i4 := by kernel_rfl
  t5 := Tryz.underlying5
  a5 := Tryz.isAgg5
  z5 := Tryz.sizeOf5
  v5 := Tryz.zeroValue5
  i5 := by kernel_rfl
  t21 := Tryz.underlying21
  a21 := Tryz.isAgg21
  z21 := Tryz.sizeOf21
  v21 := Tryz.zeroValue21
  i21 := by kernel_rfl
  t25 := Tryz.underlying106
  a25 := Tryz.isAgg106
  z25 := Tryz.sizeOf106
  v25 := Tryz.zeroValue106
  i25 := by kernel_rfl
  t30 := Tryz.underlying22
  a30 := Tryz.isAgg22
  z30 := Tryz.sizeOf22
  v30 := Tryz.zeroValue22
  i30 := by kernel_rfl
  t33 := Tryz.underlying88
  a33 := Tryz.isAgg88
  z33 := Tryz.sizeOf88
  v33 := Tryz.zeroValue88
  i33 := by kernel_rfl
  t66 := Tryz.underlying160
  a66 := Tryz.isAgg160
  z66 := Tryz.sizeOf160
  t68 := Tryz.underlying162
  a68 := Tryz.isAgg162
  z68 := Tryz.sizeOf162
  v68 := Tryz.zeroValue162
  i68 := by kernel_rfl
  t69 := Tryz.underlying163
  a69 := Tryz.isAgg163
  z69 := Tryz.sizeOf163
  v69 := Tryz.zeroValue163
  i69 := by kernel_rfl
  g2 := by kernel_rfl
  g3 := by kernel_rfl }
end Go.Proofs

namespace Go.Proofs.YtojinnnpfjhifaaGreatDoor.S
open Go.RowKit Go.Shelf Go.Lib

set_option maxHeartbeats 1000000 in
set_option maxRecDepth 100000 in
/-- FullRune, the early road. -/
theorem full_early (b off k cap x0 : Nat) (w : World) (hT : Utf8Tabs 1 2 w) (hx : x0 < 256) (h2 : 2 ≤ k)
    (hs0 : w.cell? ⟨b, off, none⟩ = some (.int .u8 x0)) (hf : firstT x0 % 8 ≤ k) :
    Calls Tryz.prog 85 #[.slice (some ⟨b, off, none⟩) k cap] w fun e w' => e = .returned (.bool true) ∧ w = w' := by
  have hc0 := hT.1 x0 hx
  have k2 : (2 : Int) ≤ (k : Int) := by omega
  have k0 : ((k : Int) == 0) = false := by rw [beq_eq_false_iff_ne]; omega
  have k0' : (0 : Int) < (k : Int) := by omega
  clear hT
  rcases M1.firstCases x0 with hX | hX | hX | hX | hX | hX | hX | hX | hX
  all_goals
    rw [hX] at hc0 hf
    clear hX
    go_enter Tryz.func85, Tryz.ntmps85
    go_wp2
  all_goals
    go_ret
    exact ⟨rfl, rfl⟩

/-- What the slow road of FullRune answers. -/
def slowAns (k b1 b2 lo hi : Nat) : Bool := if b1 < lo ∨ hi < b1 then true else if 2 < k ∧ (b2 < 128 ∨ 191 < b2) then true else false
theorem slowAns_1 {k b1 b2 lo hi : Nat} (h : b1 < lo ∨ hi < b1) : true = slowAns k b1 b2 lo hi := by unfold slowAns; rw [if_pos h]
theorem slowAns_2 {k b1 b2 lo hi : Nat} (h : 2 < k ∧ (b2 < 128 ∨ 191 < b2)) (h1 : ¬ (b1 < lo ∨ hi < b1)) : true = slowAns k b1 b2 lo hi := by unfold slowAns; rw [if_neg h1, if_pos h]
theorem slowAns_3 {k b1 b2 lo hi : Nat} (h : ¬ (2 < k ∧ (b2 < 128 ∨ 191 < b2))) (h1 : ¬ (b1 < lo ∨ hi < b1)) : false = slowAns k b1 b2 lo hi := by unfold slowAns; rw [if_neg h1, if_neg h]
theorem below_drewN {B : Nat} {a w : World} (h : Below B a w) (n : Nat) : Below B a (w.drewN n) := ⟨h.os, h.tape, h.output, h.size, h.block⟩
theorem ret_bool {a b : Bool} (h : a = b) : Ending.returned (.bool a) = .returned (.bool b) := by rw [h]

set_option maxHeartbeats 4000000 in
set_option maxRecDepth 100000 in
/-- FullRune, the slow road. -/
theorem full_slow (b off k cap x0 x1 x2 : Nat) (w : World) (hT : Utf8Tabs 1 2 w) (hx : x0 < 256) (h2 : 2 ≤ k)
    (hs0 : w.cell? ⟨b, off, none⟩ = some (.int .u8 x0)) (hs1 : w.cell? ⟨b, off + 1, none⟩ = some (.int .u8 x1))
    (hs2 : 2 < k → w.cell? ⟨b, off + 2, none⟩ = some (.int .u8 x2)) (hf : k < firstT x0 % 8) :
    Calls Tryz.prog 85 #[.slice (some ⟨b, off, none⟩) k cap] w fun e w' => e = .returned (.bool (slowAns k x1 x2 (accLo (firstT x0 / 16)) (accHi (firstT x0 / 16)))) ∧ Below w.heap.size w w' := by
  have hc0 := hT.1 x0 hx
  have k2 : (2 : Int) ≤ (k : Int) := by omega
  have k0 : ((k : Int) == 0) = false := by rw [beq_eq_false_iff_ne]; omega
  have k0' : (0 : Int) < (k : Int) := by omega
  have k1' : (1 : Int) < (k : Int) := by omega
  have hb : b < w.heap.size := block_lt_of_cell hs0
  rcases M1.firstCases x0 with hX | hX | hX | hX | hX | hX | hX | hX | hX
  all_goals
    rw [hX] at hc0 hf ⊢
    clear hX
  · omega
  · omega
  · omega
  · -- 19
    have ha0 := (hT.2 1 (by omega)).1
    have ha1 := (hT.2 1 (by omega)).2
    simp only [accLo, accHi, Nat.reduceMul, Nat.reduceAdd, Nat.reduceEqDiff, if_true, if_false, Nat.reduceDiv] at ha0 ha1 ⊢
    clear hT
    obtain rfl : k = 2 := by omega
    clear hs2
    by_cases c1 : x1 < 160
    · have d1 : decide ((x1 : Int) < 160) = true := by simp; omega
      go_enter Tryz.func85, Tryz.ntmps85
      go_wp2
      go_quiet (fail)
      go_wp2
      go_ret
      exact ⟨ret_bool (slowAns_1 (.inl (by omega))), below_drewN ((Below.refl _ _).alloc (Nat.le_refl _) _) _⟩
    · by_cases c2 : 191 < x1
      · have d1 : decide ((x1 : Int) < 160) = false := by simp; omega
        have d2 : decide (191 < (x1 : Int)) = true := by simp; omega
        go_enter Tryz.func85, Tryz.ntmps85
        go_wp2
        go_quiet (fail)
        go_wp2
        go_ret
        exact ⟨ret_bool (slowAns_1 (.inr (by omega))), below_drewN ((Below.refl _ _).alloc (Nat.le_refl _) _) _⟩
      · have d1 : decide ((x1 : Int) < 160) = false := by simp; omega
        have d2 : decide (191 < (x1 : Int)) = false := by simp; omega
        go_enter Tryz.func85, Tryz.ntmps85
        go_wp2
        go_quiet (fail)
        go_wp2
        go_ret
        exact ⟨ret_bool (slowAns_3 (by omega) (by omega)), below_drewN ((Below.refl _ _).alloc (Nat.le_refl _) _) _⟩
  · -- 3
    have ha0 := (hT.2 0 (by omega)).1
    have ha1 := (hT.2 0 (by omega)).2
    simp only [accLo, accHi, Nat.reduceMul, Nat.reduceAdd, Nat.reduceEqDiff, if_true, if_false, Nat.reduceDiv] at ha0 ha1 ⊢
    clear hT
    obtain rfl : k = 2 := by omega
    clear hs2
    by_cases c1 : x1 < 128
    · have d1 : decide ((x1 : Int) < 128) = true := by simp; omega
      go_enter Tryz.func85, Tryz.ntmps85
      go_wp2
      go_quiet (fail)
      go_wp2
      go_ret
      exact ⟨ret_bool (slowAns_1 (.inl (by omega))), below_drewN ((Below.refl _ _).alloc (Nat.le_refl _) _) _⟩
    · by_cases c2 : 191 < x1
      · have d1 : decide ((x1 : Int) < 128) = false := by simp; omega
        have d2 : decide (191 < (x1 : Int)) = true := by simp; omega
        go_enter Tryz.func85, Tryz.ntmps85
        go_wp2
        go_quiet (fail)
        go_wp2
        go_ret
        exact ⟨ret_bool (slowAns_1 (.inr (by omega))), below_drewN ((Below.refl _ _).alloc (Nat.le_refl _) _) _⟩
      · have d1 : decide ((x1 : Int) < 128) = false := by simp; omega
        have d2 : decide (191 < (x1 : Int)) = false := by simp; omega
        go_enter Tryz.func85, Tryz.ntmps85
        go_wp2
        go_quiet (fail)
        go_wp2
        go_ret
        exact ⟨ret_bool (slowAns_3 (by omega) (by omega)), below_drewN ((Below.refl _ _).alloc (Nat.le_refl _) _) _⟩
  · -- 35
    have ha0 := (hT.2 2 (by omega)).1
    have ha1 := (hT.2 2 (by omega)).2
    simp only [accLo, accHi, Nat.reduceMul, Nat.reduceAdd, Nat.reduceEqDiff, if_true, if_false, Nat.reduceDiv] at ha0 ha1 ⊢
    clear hT
    obtain rfl : k = 2 := by omega
    clear hs2
    by_cases c1 : x1 < 128
    · have d1 : decide ((x1 : Int) < 128) = true := by simp; omega
      go_enter Tryz.func85, Tryz.ntmps85
      go_wp2
      go_quiet (fail)
      go_wp2
      go_ret
      exact ⟨ret_bool (slowAns_1 (.inl (by omega))), below_drewN ((Below.refl _ _).alloc (Nat.le_refl _) _) _⟩
    · by_cases c2 : 159 < x1
      · have d1 : decide ((x1 : Int) < 128) = false := by simp; omega
        have d2 : decide (159 < (x1 : Int)) = true := by simp; omega
        go_enter Tryz.func85, Tryz.ntmps85
        go_wp2
        go_quiet (fail)
        go_wp2
        go_ret
        exact ⟨ret_bool (slowAns_1 (.inr (by omega))), below_drewN ((Below.refl _ _).alloc (Nat.le_refl _) _) _⟩
      · have d1 : decide ((x1 : Int) < 128) = false := by simp; omega
        have d2 : decide (159 < (x1 : Int)) = false := by simp; omega
        go_enter Tryz.func85, Tryz.ntmps85
        go_wp2
        go_quiet (fail)
        go_wp2
        go_ret
        exact ⟨ret_bool (slowAns_3 (by omega) (by omega)), below_drewN ((Below.refl _ _).alloc (Nat.le_refl _) _) _⟩
  · -- 52
    have ha0 := (hT.2 3 (by omega)).1
    have ha1 := (hT.2 3 (by omega)).2
    simp only [accLo, accHi, Nat.reduceMul, Nat.reduceAdd, Nat.reduceEqDiff, if_true, if_false, Nat.reduceDiv] at ha0 ha1 ⊢
    clear hT
    obtain rfl | rfl : k = 2 ∨ k = 3 := by omega
    · clear hs2
      by_cases c1 : x1 < 144
      · have d1 : decide ((x1 : Int) < 144) = true := by simp; omega
        go_enter Tryz.func85, Tryz.ntmps85
        go_wp2
        go_quiet (fail)
        go_wp2
        go_ret
        exact ⟨ret_bool (slowAns_1 (.inl (by omega))), below_drewN ((Below.refl _ _).alloc (Nat.le_refl _) _) _⟩
      · by_cases c2 : 191 < x1
        · have d1 : decide ((x1 : Int) < 144) = false := by simp; omega
          have d2 : decide (191 < (x1 : Int)) = true := by simp; omega
          go_enter Tryz.func85, Tryz.ntmps85
          go_wp2
          go_quiet (fail)
          go_wp2
          go_ret
          exact ⟨ret_bool (slowAns_1 (.inr (by omega))), below_drewN ((Below.refl _ _).alloc (Nat.le_refl _) _) _⟩
        · have d1 : decide ((x1 : Int) < 144) = false := by simp; omega
          have d2 : decide (191 < (x1 : Int)) = false := by simp; omega
          go_enter Tryz.func85, Tryz.ntmps85
          go_wp2
          go_quiet (fail)
          go_wp2
          go_ret
          exact ⟨ret_bool (slowAns_3 (by omega) (by omega)), below_drewN ((Below.refl _ _).alloc (Nat.le_refl _) _) _⟩
    · have hs2 := hs2 (by omega)
      by_cases c1 : x1 < 144
      · have d1 : decide ((x1 : Int) < 144) = true := by simp; omega
        go_enter Tryz.func85, Tryz.ntmps85
        go_wp2
        go_quiet (fail)
        go_wp2
        go_ret
        exact ⟨ret_bool (slowAns_1 (.inl (by omega))), below_drewN ((Below.refl _ _).alloc (Nat.le_refl _) _) _⟩
      · by_cases c2 : 191 < x1
        · have d1 : decide ((x1 : Int) < 144) = false := by simp; omega
          have d2 : decide (191 < (x1 : Int)) = true := by simp; omega
          go_enter Tryz.func85, Tryz.ntmps85
          go_wp2
          go_quiet (fail)
          go_wp2
          go_ret
          exact ⟨ret_bool (slowAns_1 (.inr (by omega))), below_drewN ((Below.refl _ _).alloc (Nat.le_refl _) _) _⟩
        · by_cases c3 : x2 < 128
          · have d1 : decide ((x1 : Int) < 144) = false := by simp; omega
            have d2 : decide (191 < (x1 : Int)) = false := by simp; omega
            have d3 : decide ((x2 : Int) < 128) = true := by simp; omega
            go_enter Tryz.func85, Tryz.ntmps85
            go_wp2
            go_quiet (fail)
            go_wp2
            go_ret
            exact ⟨ret_bool (slowAns_2 (by omega) (by omega)), below_drewN ((Below.refl _ _).alloc (Nat.le_refl _) _) _⟩
          · by_cases c4 : 191 < x2
            · have d1 : decide ((x1 : Int) < 144) = false := by simp; omega
              have d2 : decide (191 < (x1 : Int)) = false := by simp; omega
              have d3 : decide ((x2 : Int) < 128) = false := by simp; omega
              have d4 : decide (191 < (x2 : Int)) = true := by simp; omega
              go_enter Tryz.func85, Tryz.ntmps85
              go_wp2
              go_quiet (fail)
              go_wp2
              go_ret
              exact ⟨ret_bool (slowAns_2 (by omega) (by omega)), below_drewN ((Below.refl _ _).alloc (Nat.le_refl _) _) _⟩
            · have d1 : decide ((x1 : Int) < 144) = false := by simp; omega
              have d2 : decide (191 < (x1 : Int)) = false := by simp; omega
              have d3 : decide ((x2 : Int) < 128) = false := by simp; omega
              have d4 : decide (191 < (x2 : Int)) = false := by simp; omega
              go_enter Tryz.func85, Tryz.ntmps85
              go_wp2
              go_quiet (fail)
              go_wp2
              go_ret
              exact ⟨ret_bool (slowAns_3 (by omega) (by omega)), below_drewN ((Below.refl _ _).alloc (Nat.le_refl _) _) _⟩
  · -- 4
    have ha0 := (hT.2 0 (by omega)).1
    have ha1 := (hT.2 0 (by omega)).2
    simp only [accLo, accHi, Nat.reduceMul, Nat.reduceAdd, Nat.reduceEqDiff, if_true, if_false, Nat.reduceDiv] at ha0 ha1 ⊢
    clear hT
    obtain rfl | rfl : k = 2 ∨ k = 3 := by omega
    · clear hs2
      by_cases c1 : x1 < 128
      · have d1 : decide ((x1 : Int) < 128) = true := by simp; omega
        go_enter Tryz.func85, Tryz.ntmps85
        go_wp2
        go_quiet (fail)
        go_wp2
        go_ret
        exact ⟨ret_bool (slowAns_1 (.inl (by omega))), below_drewN ((Below.refl _ _).alloc (Nat.le_refl _) _) _⟩
      · by_cases c2 : 191 < x1
        · have d1 : decide ((x1 : Int) < 128) = false := by simp; omega
          have d2 : decide (191 < (x1 : Int)) = true := by simp; omega
          go_enter Tryz.func85, Tryz.ntmps85
          go_wp2
          go_quiet (fail)
          go_wp2
          go_ret
          exact ⟨ret_bool (slowAns_1 (.inr (by omega))), below_drewN ((Below.refl _ _).alloc (Nat.le_refl _) _) _⟩
        · have d1 : decide ((x1 : Int) < 128) = false := by simp; omega
          have d2 : decide (191 < (x1 : Int)) = false := by simp; omega
          go_enter Tryz.func85, Tryz.ntmps85
          go_wp2
          go_quiet (fail)
          go_wp2
          go_ret
          exact ⟨ret_bool (slowAns_3 (by omega) (by omega)), below_drewN ((Below.refl _ _).alloc (Nat.le_refl _) _) _⟩
    · have hs2 := hs2 (by omega)
      by_cases c1 : x1 < 128
      · have d1 : decide ((x1 : Int) < 128) = true := by simp; omega
        go_enter Tryz.func85, Tryz.ntmps85
        go_wp2
        go_quiet (fail)
        go_wp2
        go_ret
        exact ⟨ret_bool (slowAns_1 (.inl (by omega))), below_drewN ((Below.refl _ _).alloc (Nat.le_refl _) _) _⟩
      · by_cases c2 : 191 < x1
        · have d1 : decide ((x1 : Int) < 128) = false := by simp; omega
          have d2 : decide (191 < (x1 : Int)) = true := by simp; omega
          go_enter Tryz.func85, Tryz.ntmps85
          go_wp2
          go_quiet (fail)
          go_wp2
          go_ret
          exact ⟨ret_bool (slowAns_1 (.inr (by omega))), below_drewN ((Below.refl _ _).alloc (Nat.le_refl _) _) _⟩
        · by_cases c3 : x2 < 128
          · have d1 : decide ((x1 : Int) < 128) = false := by simp; omega
            have d2 : decide (191 < (x1 : Int)) = false := by simp; omega
            have d3 : decide ((x2 : Int) < 128) = true := by simp; omega
            go_enter Tryz.func85, Tryz.ntmps85
            go_wp2
            go_quiet (fail)
            go_wp2
            go_ret
            exact ⟨ret_bool (slowAns_2 (by omega) (by omega)), below_drewN ((Below.refl _ _).alloc (Nat.le_refl _) _) _⟩
          · by_cases c4 : 191 < x2
            · have d1 : decide ((x1 : Int) < 128) = false := by simp; omega
              have d2 : decide (191 < (x1 : Int)) = false := by simp; omega
              have d3 : decide ((x2 : Int) < 128) = false := by simp; omega
              have d4 : decide (191 < (x2 : Int)) = true := by simp; omega
              go_enter Tryz.func85, Tryz.ntmps85
              go_wp2
              go_quiet (fail)
              go_wp2
              go_ret
              exact ⟨ret_bool (slowAns_2 (by omega) (by omega)), below_drewN ((Below.refl _ _).alloc (Nat.le_refl _) _) _⟩
            · have d1 : decide ((x1 : Int) < 128) = false := by simp; omega
              have d2 : decide (191 < (x1 : Int)) = false := by simp; omega
              have d3 : decide ((x2 : Int) < 128) = false := by simp; omega
              have d4 : decide (191 < (x2 : Int)) = false := by simp; omega
              go_enter Tryz.func85, Tryz.ntmps85
              go_wp2
              go_quiet (fail)
              go_wp2
              go_ret
              exact ⟨ret_bool (slowAns_3 (by omega) (by omega)), below_drewN ((Below.refl _ _).alloc (Nat.le_refl _) _) _⟩
  · -- 68
    have ha0 := (hT.2 4 (by omega)).1
    have ha1 := (hT.2 4 (by omega)).2
    simp only [accLo, accHi, Nat.reduceMul, Nat.reduceAdd, Nat.reduceEqDiff, if_true, if_false, Nat.reduceDiv] at ha0 ha1 ⊢
    clear hT
    obtain rfl | rfl : k = 2 ∨ k = 3 := by omega
    · clear hs2
      by_cases c1 : x1 < 128
      · have d1 : decide ((x1 : Int) < 128) = true := by simp; omega
        go_enter Tryz.func85, Tryz.ntmps85
        go_wp2
        go_quiet (fail)
        go_wp2
        go_ret
        exact ⟨ret_bool (slowAns_1 (.inl (by omega))), below_drewN ((Below.refl _ _).alloc (Nat.le_refl _) _) _⟩
      · by_cases c2 : 143 < x1
        · have d1 : decide ((x1 : Int) < 128) = false := by simp; omega
          have d2 : decide (143 < (x1 : Int)) = true := by simp; omega
          go_enter Tryz.func85, Tryz.ntmps85
          go_wp2
          go_quiet (fail)
          go_wp2
          go_ret
          exact ⟨ret_bool (slowAns_1 (.inr (by omega))), below_drewN ((Below.refl _ _).alloc (Nat.le_refl _) _) _⟩
        · have d1 : decide ((x1 : Int) < 128) = false := by simp; omega
          have d2 : decide (143 < (x1 : Int)) = false := by simp; omega
          go_enter Tryz.func85, Tryz.ntmps85
          go_wp2
          go_quiet (fail)
          go_wp2
          go_ret
          exact ⟨ret_bool (slowAns_3 (by omega) (by omega)), below_drewN ((Below.refl _ _).alloc (Nat.le_refl _) _) _⟩
    · have hs2 := hs2 (by omega)
      by_cases c1 : x1 < 128
      · have d1 : decide ((x1 : Int) < 128) = true := by simp; omega
        go_enter Tryz.func85, Tryz.ntmps85
        go_wp2
        go_quiet (fail)
        go_wp2
        go_ret
        exact ⟨ret_bool (slowAns_1 (.inl (by omega))), below_drewN ((Below.refl _ _).alloc (Nat.le_refl _) _) _⟩
      · by_cases c2 : 143 < x1
        · have d1 : decide ((x1 : Int) < 128) = false := by simp; omega
          have d2 : decide (143 < (x1 : Int)) = true := by simp; omega
          go_enter Tryz.func85, Tryz.ntmps85
          go_wp2
          go_quiet (fail)
          go_wp2
          go_ret
          exact ⟨ret_bool (slowAns_1 (.inr (by omega))), below_drewN ((Below.refl _ _).alloc (Nat.le_refl _) _) _⟩
        · by_cases c3 : x2 < 128
          · have d1 : decide ((x1 : Int) < 128) = false := by simp; omega
            have d2 : decide (143 < (x1 : Int)) = false := by simp; omega
            have d3 : decide ((x2 : Int) < 128) = true := by simp; omega
            go_enter Tryz.func85, Tryz.ntmps85
            go_wp2
            go_quiet (fail)
            go_wp2
            go_ret
            exact ⟨ret_bool (slowAns_2 (by omega) (by omega)), below_drewN ((Below.refl _ _).alloc (Nat.le_refl _) _) _⟩
          · by_cases c4 : 191 < x2
            · have d1 : decide ((x1 : Int) < 128) = false := by simp; omega
              have d2 : decide (143 < (x1 : Int)) = false := by simp; omega
              have d3 : decide ((x2 : Int) < 128) = false := by simp; omega
              have d4 : decide (191 < (x2 : Int)) = true := by simp; omega
              go_enter Tryz.func85, Tryz.ntmps85
              go_wp2
              go_quiet (fail)
              go_wp2
              go_ret
              exact ⟨ret_bool (slowAns_2 (by omega) (by omega)), below_drewN ((Below.refl _ _).alloc (Nat.le_refl _) _) _⟩
            · have d1 : decide ((x1 : Int) < 128) = false := by simp; omega
              have d2 : decide (143 < (x1 : Int)) = false := by simp; omega
              have d3 : decide ((x2 : Int) < 128) = false := by simp; omega
              have d4 : decide (191 < (x2 : Int)) = false := by simp; omega
              go_enter Tryz.func85, Tryz.ntmps85
              go_wp2
              go_quiet (fail)
              go_wp2
              go_ret
              exact ⟨ret_bool (slowAns_3 (by omega) (by omega)), below_drewN ((Below.refl _ _).alloc (Nat.le_refl _) _) _⟩
end Go.Proofs.YtojinnnpfjhifaaGreatDoor.S

namespace Go.Proofs.YtojinnnpfjhifaaGreatDoor.S
open Go.RowKit Go.Shelf
open Go.Lib

/-- n bytes lie from a place on. -/
def Bs (w : World) (b off n : Nat) (f : Nat → Nat) : Prop := ∀ j, j < n → w.cell? ⟨b, off + j, none⟩ = some (.int .u8 (f j : Nat)) ∧ f j < 256

theorem Bs.lt {w : World} {b off n : Nat} {f : Nat → Nat} (h : Bs w b off n f) (hn : 0 < n) : b < w.heap.size := block_lt_of_cell (h 0 hn).1
theorem Bs.below {w w' : World} {b off n B : Nat} {f : Nat → Nat} (h : Bs w b off n f) (hb : Below B w w') (hB : b < B) : Bs w' b off n f :=
  fun j hj => ⟨(hb.cell (p := ⟨b, off + j, none⟩) hB).trans (h j hj).1, (h j hj).2⟩
theorem Bs.drop {w : World} {b off n : Nat} {f : Nat → Nat} (h : Bs w b off n f) (k : Nat) : Bs w b (off + k) (n - k) (fun j => f (k + j)) :=
  fun j hj => by have := h (k + j) (by omega); rw [← Nat.add_assoc] at this; exact this
theorem Bs.take {w : World} {b off n : Nat} {f : Nat → Nat} (h : Bs w b off n f) {k : Nat} (hk : k ≤ n) : Bs w b off k f := fun j hj => h j (by omega)
/-- The two tables lie below. -/
def Tabs (w : World) : Prop := Utf8Tabs 1 2 w ∧ 5 ≤ w.heap.size
theorem Tabs.below {w w' : World} {B : Nat} (h : Tabs w) (hb : Below B w w') (hB : 5 ≤ B) : Tabs w' := by
  refine ⟨⟨fun c hc => (hb.cell (p := ⟨1, c, none⟩) (by show 1 < B; omega)).trans (h.1.1 c hc), fun i hi => ⟨?_, ?_⟩⟩, ?_⟩
  · exact (hb.cell (p := ⟨2, 2 * i, none⟩) (by show 2 < B; omega)).trans (h.1.2 i hi).1
  · exact (hb.cell (p := ⟨2, 2 * i + 1, none⟩) (by show 2 < B; omega)).trans (h.1.2 i hi).2
  · have := hb.size; have := h.2; omega

/-- FullRune at two bytes and more. -/
theorem full_any (b off k cap n : Nat) (f : Nat → Nat) (w : World) (hT : Tabs w) (hB : Bs w b off n f) (h2 : 2 ≤ k) (hk : k ≤ n) :
    Calls Tryz.prog 85 #[.slice (some ⟨b, off, none⟩) k cap] w fun e w' => e = .returned (.bool (M1.fullB k (f 0) (f 1) (f 2))) ∧ Below w.heap.size w w' := by
  have h0 := hB 0 (by omega)
  have h1 := hB 1 (by omega)
  by_cases hf : firstT (f 0) % 8 ≤ k
  · have e : M1.fullB k (f 0) (f 1) (f 2) = true := by unfold M1.fullB M1.fullS; rw [if_pos hf]
    rw [e]
    refine (full_early b off k cap (f 0) w hT.1 h0.2 h2 h0.1 hf).mono ?_
    rintro e w' ⟨rfl, rfl⟩
    exact ⟨rfl, Below.refl _ _⟩
  · have e : M1.fullB k (f 0) (f 1) (f 2) = slowAns k (f 1) (f 2) (accLo (firstT (f 0) / 16)) (accHi (firstT (f 0) / 16)) := by
      unfold M1.fullB M1.fullS slowAns
      rw [if_neg hf]
      by_cases c : f 1 < accLo (firstT (f 0) / 16) ∨ accHi (firstT (f 0) / 16) < f 1
      · rw [if_pos c, if_pos ⟨by omega, c⟩]
      · rw [if_neg c, if_neg (fun h => c h.2)]
    rw [e]
    exact full_slow b off k cap (f 0) (f 1) (f 2) w hT.1 h0.2 h2 h0.1 h1.1 (fun h => (hB 2 (by omega)).1) (by omega)

set_option maxHeartbeats 1000000 in
/-- scalar.brokenSize. -/
theorem brk_any (b off n cap : Nat) (f : Nat → Nat) (w : World) (hT : Tabs w) (hB : Bs w b off n f) (hn : 1 ≤ n) (hc : n ≤ cap) (hm : cap ≤ maxLen) :
    Calls Tryz.prog 71 #[.slice (some ⟨b, off, none⟩) n cap] w fun e w' => ∃ k : Nat, e = .returned (.int .i64 k) ∧ M1.Brk n (f 0) (f 1) (f 2) k ∧ Below w.heap.size w w' := by
  unfold maxLen at hm
  have hlt := hB.lt (by omega)
  have hn1 : (1 : Int) ≤ (n : Int) := by omega
  have hc1 : (n : Int) ≤ (cap : Int) := by omega
  go_enter Tryz.func71, Tryz.ntmps71
  go_wp2
  go_loopw [3] (fun s wr => ∃ k : Nat, 1 ≤ k ∧ k ≤ n ∧ s = .int .i64 k ∧ (∀ j, 2 ≤ j → j ≤ k → M1.fullB j (f 0) (f 1) (f 2) = false) ∧ Below w.heap.size w wr) (fun s _ => n - (RowKit.intOf s).toNat)
  case atStart => exact ⟨1, by omega, by omega, rfl, fun j a b => by omega, Below.refl _ _⟩
  case round =>
    obtain ⟨k, hk1, hkn, rfl, hfs, hb⟩ := hrel
    have HF := Lib.hid hfs
    clear hfs
    by_cases hlt : k < n
    · have hki : (k : Int) + 1 ≤ (n : Int) := by omega
      have hT' := Lib.hid (hT.below hb (by have := hT.2; omega))
      have hB' := Lib.hid (hB.below hb (by omega))
      have C := fun W (h1 : Tabs W) (h2 : Bs W b off n f) => full_any b off (k + 1) cap n f W h1 h2 (by omega) (by omega)
      cases hv : M1.fullB (k + 1) (f 0) (f 1) (f 2)
      · rw [hv] at C
        have C := Lib.hid C
        have HV := Lib.hid hv
        clear hv
        go_wp2_with (go_at_call 85; refine (C.out _ hT'.out hB'.out).mono ?_; rintro e w1 ⟨rfl, hb1⟩)
        go_roundw
        case rel => exact ⟨k + 1, by omega, by omega, by go_num, fun j a c => by
          rcases Nat.lt_or_ge k j with h | h
          · obtain rfl : j = k + 1 := by omega
            exact HV.out
          · exact HF.out j a h, hb.trans (hb1.mono hb.size)⟩
        case measure => simp [RowKit.intOf]; omega
      · rw [hv] at C
        have C := Lib.hid C
        have HV := Lib.hid hv
        clear hv
        go_wp2_with (go_at_call 85; refine (C.out _ hT'.out hB'.out).mono ?_; rintro e w1 ⟨rfl, hb1⟩)
        go_ret
        exact ⟨k, rfl, ⟨hk1, hkn, HF.out, fun _ => HV.out⟩, hb.trans (hb1.mono hb.size)⟩
    · have hki : (n : Int) ≤ (k : Int) := by omega
      go_wp2
      go_ret
      exact ⟨k, rfl, ⟨hk1, hkn, HF.out, fun h => absurd h hlt⟩, hb⟩

end Go.Proofs.YtojinnnpfjhifaaGreatDoor.S

namespace Go.Proofs.YtojinnnpfjhifaaGreatDoor.S
open Go.RowKit Go.Shelf
open Go.Lib

/-- The byte at a place; 0 behind the end. -/
def bt (n : Nat) (f : Nat → Nat) (j : Nat) : Nat := if j < n then f j else 0
/-- What is read of n bytes. -/
def pc (n : Nat) (f : Nat → Nat) : Nat × Nat × Bool := M1.pieceB n (bt n f 0) (bt n f 1) (bt n f 2) (bt n f 3)
theorem pc_size (n : Nat) (f : Nat → Nat) (hn : 1 ≤ n) : 1 ≤ (pc n f).2.1 ∧ (pc n f).2.1 ≤ n ∧ (pc n f).2.1 ≤ 4 := M1.pieceB_size _ _ _ _ _ hn
theorem Bs.norm {w : World} {b off n : Nat} {f : Nat → Nat} (h : Bs w b off n f) : Bs w b off n (bt n f) := fun j hj => by
  unfold bt
  rw [if_pos hj]
  exact h j hj
theorem bt_lt {w : World} {b off n : Nat} {f : Nat → Nat} (h : Bs w b off n f) (j : Nat) : bt n f j < 256 := by
  unfold bt
  split
  · exact (h j (by assumption)).2
  · omega

theorem bytesOf (n : Nat) (f : Nat → Nat) (hf : ∀ j, j < n → f j < 256) : ∃ s : ByteArray, s.size = n ∧ ∀ j, (s.get! j).toNat = bt n f j := by
  refine ⟨⟨((List.range n).map fun j => (f j).toUInt8).toArray⟩, by simp [ByteArray.size], fun j => ?_⟩
  unfold bt
  by_cases h : j < n
  · rw [if_pos h]
    have := hf j h
    simp [ByteArray.get!, h]
    omega
  · rw [if_neg h]
    simp [ByteArray.get!, h]
    rfl

/-- unicode/utf8.DecodeRune. -/
theorem dr_any (b off n cap : Nat) (f : Nat → Nat) (w : World) (hT : Tabs w) (hB : Bs w b off n f) (hn : 1 ≤ n) :
    Calls Tryz.prog 70 #[.slice (some ⟨b, off, none⟩) n cap] w fun e w' => e = .returned (.tuple #[.int .i32 (decodeN n (bt n f 0) (bt n f 1) (bt n f 2) (bt n f 3)).1, .int .i64 (decodeN n (bt n f 0) (bt n f 1) (bt n f 2) (bt n f 3)).2]) ∧ Below w.heap.size w w' := by
  obtain ⟨s, hs, hg⟩ := bytesOf n f (fun j hj => (hB j hj).2)
  have e : decodeGo s = decodeN n (bt n f 0) (bt n f 1) (bt n f 2) (bt n f 3) := by
    unfold decodeGo
    rw [if_neg (by omega), decode_at, hs, hg, hg, hg, hg]
    rfl
  have c := Any7.utf8_DecodeRune Tryz.lays32 s b off cap w hT.1 (fun j hj => by
    have := (hB.norm j (by omega)).1
    rw [← hg j] at this
    exact this)
  rw [e, hs] at c
  exact c

theorem Bs.alloc {w : World} {b off n : Nat} {f : Nat → Nat} (h : Bs w b off n f) (hn : 0 < n) (o : Obj) : Bs (w.alloc o) b off n f :=
  h.below (B := w.heap.size) ((Below.refl _ w).alloc (Nat.le_refl _) o) (h.lt hn)
theorem Tabs.alloc {w : World} (h : Tabs w) (o : Obj) : Tabs (w.alloc o) := h.below ((Below.refl _ w).alloc (Nat.le_refl _) o) h.2
theorem Tryz.cells110 : Tryz.prog.cellsOf 110 = 4 := by kernel_rfl

set_option maxHeartbeats 1000000 in
/-- scalar.decode: the scalar that is read at a place. -/
theorem dec_any (b off n cap i : Nat) (f : Nat → Nat) (w : World) (hT : Tabs w) (hB : Bs w b off n f) (hi : i < n) (hc : n ≤ cap) (hm : cap ≤ maxLen) :
    Calls Tryz.prog 59 #[.slice (some ⟨b, off, none⟩) n cap, .int .i64 i] w fun e w' =>
      e = .returned (.agg #[.int .i32 (pc (n - i) (fun j => f (i + j))).1, .int .i64 i, .int .i64 (pc (n - i) (fun j => f (i + j))).2.1, .bool (pc (n - i) (fun j => f (i + j))).2.2]) ∧ Below w.heap.size w w' := by
  unfold maxLen at hm
  have hlt := hB.lt (by omega)
  have hi0 : (0 : Int) ≤ (i : Int) := by omega
  have hi1 : (i : Int) < (n : Int) := by omega
  have hc1 : (n : Int) ≤ (cap : Int) := by omega
  have hB' := hB.drop i
  have hD := fun W (h1 : Tabs W) (h2 : Bs W b (off + i) (n - i) (fun j => f (i + j))) => dr_any b (off + i) (n - i) (cap - i) _ W h1 h2 (by omega)
  have hK := fun W (h1 : Tabs W) (h2 : Bs W b (off + i) (n - i) (bt (n - i) fun j => f (i + j))) => brk_any b (off + i) (n - i) (cap - i) _ W h1 h2 (by omega) (by omega) (by unfold maxLen; omega)
  have hl := bt_lt hB'
  generalize hg : (fun j => f (i + j)) = g at *
  have HT := Lib.hid hT
  have HB := Lib.hid hB'
  cases hw : (pc (n - i) g).2.2
  · obtain ⟨e1, e2⟩ := M1.pieceB_broken (n - i) _ _ _ _ (by omega) (hl 0) (hl 1) (hl 2) (hl 3) hw
    have hk := fun k => M1.brk_size (n - i) _ _ _ _ k (by omega) hw
    rw [e1] at hD
    have e2' : (pc (n - i) g).1 = 65533 := e2
    have hk' : ∀ k, M1.Brk (n - i) (bt (n - i) g 0) (bt (n - i) g 1) (bt (n - i) g 2) k → k = (pc (n - i) g).2.1 := hk
    rw [e2']
    clear e1 e2 e2' hk hw hB hB' hT hl hg
    have HD := Lib.hid hD
    have HK := Lib.hid hK
    have HQ := Lib.hid hk'
    clear hD hK hk'
    go_enter Tryz.func59, Tryz.ntmps59
    go_wp2_with fail
    refine (HD.out _ (HT.out.alloc _) (HB.out.alloc (by omega) _)).mono ?_
    rintro e w1 ⟨rfl, hb1⟩
    have hs1 := hb1.size
    rw [World.size_alloc] at hs1 hb1
    have q0 : w1.cell? ⟨w.heap.size, 0, none⟩ = some (.int .i32 0) := (hb1.cell (p := ⟨w.heap.size, 0, none⟩) (by simp)).trans (by simp)
    have q1 : w1.cell? ⟨w.heap.size, 1, none⟩ = some (.int .i64 0) := (hb1.cell (p := ⟨w.heap.size, 1, none⟩) (by simp)).trans (by simp)
    have q2 : w1.cell? ⟨w.heap.size, 2, none⟩ = some (.int .i64 0) := (hb1.cell (p := ⟨w.heap.size, 2, none⟩) (by simp)).trans (by simp)
    have q3 : w1.cell? ⟨w.heap.size, 3, none⟩ = some (.bool false) := (hb1.cell (p := ⟨w.heap.size, 3, none⟩) (by simp)).trans (by simp)
    have hbw : Below w.heap.size w w1 := ((Below.refl _ w).alloc (Nat.le_refl _) _).trans (hb1.mono (by omega))
    go_wp2_with fail
    refine (HK.out _ (HT.out.below hbw HT.out.2) (HB.out.below hbw hlt).norm).mono ?_
    rintro e w2 ⟨k, rfl, hkk, hb2⟩
    have hkq := HQ.out k hkk
    clear hkk
    subst hkq
    have hs2 := hb2.size
    have r0 := (hb2.cell (p := ⟨w.heap.size, 0, none⟩) (by show w.heap.size < _; omega)).trans q0
    have r1 := (hb2.cell (p := ⟨w.heap.size, 1, none⟩) (by show w.heap.size < _; omega)).trans q1
    have r2 := (hb2.cell (p := ⟨w.heap.size, 2, none⟩) (by show w.heap.size < _; omega)).trans q2
    have r3 := (hb2.cell (p := ⟨w.heap.size, 3, none⟩) (by show w.heap.size < _; omega)).trans q3
    have fz : ∀ j, w2.frozen? ⟨w.heap.size, j, none⟩ = false := fun j => (hb2.frozen (p := ⟨w.heap.size, j, none⟩) (by show w.heap.size < _; omega)).trans ((hb1.frozen (p := ⟨w.heap.size, j, none⟩) (by simp)).trans (by simp))
    have f0 := fz 0; have f1 := fz 1; have f2 := fz 2; have f3 := fz 3
    have hbz := hbw.trans (hb2.mono (by omega))
    clear q0 q1 q2 q3 fz
    go_wp2
    refine bodyPost_ret (v := .agg #[.int .i32 65533, .int .i64 i, .int .i64 (pc (n - i) g).2.1, .bool false]) ?_ rfl ⟨rfl, ?_⟩
    · simp [results, Tryz.results59, go_sem, r0, r1, r2, r3]
    · exact (((hbz.setCell (p := ⟨_, 0, none⟩) (Nat.le_refl _) _).setCell (p := ⟨_, 1, none⟩) (Nat.le_refl _) _).setCell (p := ⟨_, 2, none⟩) (Nat.le_refl _) _).setCell (p := ⟨_, 3, none⟩) (Nat.le_refl _) _
  · obtain ⟨e1, e2⟩ := M1.pieceB_whole (n - i) _ _ _ _ (by omega) (hl 1) (hl 2) (hl 3) hw
    have e1' : decodeN (n - i) (bt (n - i) g 0) (bt (n - i) g 1) (bt (n - i) g 2) (bt (n - i) g 3) = ((pc (n - i) g).1, (pc (n - i) g).2.1) := e1
    have e2' : (pc (n - i) g).1 ≠ 65533 ∨ (pc (n - i) g).2.1 ≠ 1 := e2
    rw [e1'] at hD
    clear e1 e1' e2 hK hw hB hB' hT hl hg
    generalize (pc (n - i) g).1 = R at *
    generalize (pc (n - i) g).2.1 = S at *
    have HD := Lib.hid hD
    clear hD
    by_cases c : R = 65533
    · have c1 : ((R : Int) == 65533) = true := by rw [beq_iff_eq]; omega
      have c2 : ((S : Int) == 1) = false := by rw [beq_eq_false_iff_ne]; omega
      clear e2' c1
      subst c
      have c2' : ((65533 : Int) == 65533) = true := rfl
      go_enter Tryz.func59, Tryz.ntmps59
      go_wp2_with fail
      refine (HD.out _ (HT.out.alloc _) (HB.out.alloc (by omega) _)).mono ?_
      rintro e w1 ⟨rfl, hb1⟩
      have hs1 := hb1.size
      rw [World.size_alloc] at hs1 hb1
      have q0 : w1.cell? ⟨w.heap.size, 0, none⟩ = some (.int .i32 0) := (hb1.cell (p := ⟨w.heap.size, 0, none⟩) (by simp)).trans (by simp)
      have q1 : w1.cell? ⟨w.heap.size, 1, none⟩ = some (.int .i64 0) := (hb1.cell (p := ⟨w.heap.size, 1, none⟩) (by simp)).trans (by simp)
      have q2 : w1.cell? ⟨w.heap.size, 2, none⟩ = some (.int .i64 0) := (hb1.cell (p := ⟨w.heap.size, 2, none⟩) (by simp)).trans (by simp)
      have q3 : w1.cell? ⟨w.heap.size, 3, none⟩ = some (.bool false) := (hb1.cell (p := ⟨w.heap.size, 3, none⟩) (by simp)).trans (by simp)
      have fz : ∀ j, w1.frozen? ⟨w.heap.size, j, none⟩ = false := fun j => (hb1.frozen (p := ⟨w.heap.size, j, none⟩) (by simp)).trans (by simp)
      have f0 := fz 0; have f1 := fz 1; have f2 := fz 2; have f3 := fz 3
      have hbw : Below w.heap.size w w1 := ((Below.refl _ w).alloc (Nat.le_refl _) _).trans (hb1.mono (by omega))
      clear fz
      go_wp2
      refine bodyPost_ret (v := .agg #[.int .i32 65533, .int .i64 i, .int .i64 S, .bool true]) ?_ rfl ⟨rfl, ?_⟩
      · simp [results, Tryz.results59, go_sem, q0, q1, q2, q3]
      · exact (((hbw.setCell (p := ⟨_, 0, none⟩) (Nat.le_refl _) _).setCell (p := ⟨_, 1, none⟩) (Nat.le_refl _) _).setCell (p := ⟨_, 2, none⟩) (Nat.le_refl _) _).setCell (p := ⟨_, 3, none⟩) (Nat.le_refl _) _
    · have c1 : ((R : Int) == 65533) = false := by rw [beq_eq_false_iff_ne]; omega
      clear c e2'
      go_enter Tryz.func59, Tryz.ntmps59
      go_wp2_with fail
      refine (HD.out _ (HT.out.alloc _) (HB.out.alloc (by omega) _)).mono ?_
      rintro e w1 ⟨rfl, hb1⟩
      have hs1 := hb1.size
      rw [World.size_alloc] at hs1 hb1
      have q0 : w1.cell? ⟨w.heap.size, 0, none⟩ = some (.int .i32 0) := (hb1.cell (p := ⟨w.heap.size, 0, none⟩) (by simp)).trans (by simp)
      have q1 : w1.cell? ⟨w.heap.size, 1, none⟩ = some (.int .i64 0) := (hb1.cell (p := ⟨w.heap.size, 1, none⟩) (by simp)).trans (by simp)
      have q2 : w1.cell? ⟨w.heap.size, 2, none⟩ = some (.int .i64 0) := (hb1.cell (p := ⟨w.heap.size, 2, none⟩) (by simp)).trans (by simp)
      have q3 : w1.cell? ⟨w.heap.size, 3, none⟩ = some (.bool false) := (hb1.cell (p := ⟨w.heap.size, 3, none⟩) (by simp)).trans (by simp)
      have fz : ∀ j, w1.frozen? ⟨w.heap.size, j, none⟩ = false := fun j => (hb1.frozen (p := ⟨w.heap.size, j, none⟩) (by simp)).trans (by simp)
      have f0 := fz 0; have f1 := fz 1; have f2 := fz 2; have f3 := fz 3
      have hbw : Below w.heap.size w w1 := ((Below.refl _ w).alloc (Nat.le_refl _) _).trans (hb1.mono (by omega))
      clear fz
      go_wp2
      refine bodyPost_ret (v := .agg #[.int .i32 R, .int .i64 i, .int .i64 S, .bool true]) ?_ rfl ⟨rfl, ?_⟩
      · simp [results, Tryz.results59, go_sem, q0, q1, q2, q3]
      · exact (((hbw.setCell (p := ⟨_, 0, none⟩) (Nat.le_refl _) _).setCell (p := ⟨_, 1, none⟩) (Nat.le_refl _) _).setCell (p := ⟨_, 2, none⟩) (Nat.le_refl _) _).setCell (p := ⟨_, 3, none⟩) (Nat.le_refl _) _
end Go.Proofs.YtojinnnpfjhifaaGreatDoor.S

namespace Go.Proofs.YtojinnnpfjhifaaGreatDoor.S
open Go.RowKit Go.Shelf
open Go.Lib

set_option maxHeartbeats 1000000 in
/-- scalar.Next, inside. -/
theorem next_in (b off n cap i : Nat) (f : Nat → Nat) (w : World) (hT : Tabs w) (hB : Bs w b off n f) (hi : i < n) (hc : n ≤ cap) (hm : cap ≤ maxLen) :
    Calls Tryz.prog 43 #[.slice (some ⟨b, off, none⟩) n cap, .int .i64 i] w fun e w' =>
      e = .returned (.tuple #[.int .i32 (pc (n - i) (fun j => f (i + j))).1, .int .i64 (pc (n - i) (fun j => f (i + j))).2.1]) ∧ Below w.heap.size w w' := by
  have C := dec_any b off n cap i f w hT hB hi hc hm
  generalize pc (n - i) (fun j => f (i + j)) = P at *
  obtain ⟨R, S, W⟩ := P
  have C := Lib.hid C
  have i0 : ¬ ((i : Int) < 0) := by omega
  have i1 : (i : Int) < (n : Int) := by omega
  have d1 : decide ((i : Int) < 0) = false := by simp
  have d2 : decide ((n : Int) ≤ (i : Int)) = false := by simp; omega
  clear hT hB
  go_enter Tryz.func43, Tryz.ntmps43
  go_wp2_with fail
  refine C.out.mono ?_
  rintro e w1 ⟨rfl, hb1⟩
  have hs := hb1.size
  go_wp2
  go_quiet (fail)
  go_wp2
  go_ret2
  exact ⟨rfl, below_drewN (hb1.alloc hs _) _⟩

/-- Bytes of the call's own. -/
def PutPost (l : List UInt8) (w : World) (e : Ending) (w' : World) : Prop :=
  ∃ g cap : Nat, e = .returned (.slice (some ⟨g, 0, none⟩) l.length cap) ∧ (∀ j (hj : j < l.length), w'.cell? ⟨g, j, none⟩ = some (.int .u8 (l[j].toNat : Int))) ∧ l.length ≤ cap ∧ cap ≤ maxLen ∧ g < w'.heap.size ∧ Below w.heap.size w w'

theorem ar_any (r : Int) (hr0 : -2147483648 ≤ r) (hr1 : r ≤ 2147483647) (w : World) : Calls Tryz.prog 33 #[.slice none 0 0, .int .i32 r] w (PutPost (encodeRune r) w) := by
  have c := Any.utf8_AppendRune_plain Tryz.lays242 (by kernel_rfl) w.heap.size (.slice none 0 0) 0 [] r hr0 hr1 w (World.ownsRow_nil _ _ _ _) (by omega) (Nat.le_refl _)
  refine Calls.mono c ?_
  rintro e w' ⟨v, rfl, hown, o, hg⟩
  have hl := encodeRuneZ_length r
  have hlen : (runeCells r).length = (encodeRune r).length := runeCells_length r
  have hl1 : 1 ≤ (encodeRune r).length := by unfold encodeRune; simpa using hl.1
  rw [List.nil_append, Nat.zero_add, hlen, ← byteCells_encodeRune] at hown
  have hb : Below w.heap.size w w' := ((Below.refl _ w).alloc (Nat.le_refl _) o).grown hg (by simp) (fun k e => by simp [Value.ownBlock] at e)
  rcases hown.2 with ⟨_, h0⟩ | ⟨g, cap, cur, rfl, hgb, hh, hnc, hcm, _⟩
  · omega
  · refine ⟨g, cap, rfl, fun j hj => ?_, hnc, ?_, (Array.getElem?_eq_some_iff.1 hh).1, hb⟩
    · have := hown.cellAt j (by omega)
      rw [this]
      simp [byteCells, hj]
    · exact hcm

set_option maxHeartbeats 1000000 in
/-- scalar.Put. -/
theorem put_any (r : Int) (hr0 : -2147483648 ≤ r) (hr1 : r ≤ 2147483647) (w : World) : Calls Tryz.prog 21 #[.int .i32 r] w (PutPost (encodeRune r) w) := by
  have C := Lib.hid (ar_any r hr0 hr1 w)
  go_enter Tryz.func21, Tryz.ntmps21
  go_wp2_with fail
  refine C.out.mono ?_
  rintro e w' ⟨g, cap, rfl, hc, h1, h2, h3, hb⟩
  have H := Lib.hid (And.intro hc (And.intro h1 (And.intro h2 (And.intro h3 hb))))
  clear hc h1 h2 h3 hb
  go_wp2
  go_ret
  exact ⟨g, cap, rfl, H.out.1, H.out.2.1, H.out.2.2.1, H.out.2.2.2.1, H.out.2.2.2.2⟩

end Go.Proofs.YtojinnnpfjhifaaGreatDoor.S

namespace Go.Proofs.YtojinnnpfjhifaaGreatDoor.K
open Go.RowKit Go.Shelf Go.Lib Go.Maps

/-- The scalar that is read at a place. -/
def nxS (n : Nat) (f : Nat → Nat) (k : Nat) : Nat × Nat × Bool := S.pc (n - k) (fun j => f (k + j))
theorem nxS_size (n : Nat) (f : Nat → Nat) (k : Nat) (h : k < n) : 1 ≤ (nxS n f k).2.1 ∧ (nxS n f k).2.1 ≤ n - k ∧ (nxS n f k).2.1 ≤ 4 := S.pc_size _ _ (by omega)
/-- The items of a text. -/
def textF (n : Nat) (f : Nat → Nat) (fr : Nat) (nb pb : Bool) : Nat → Nat → Bool → Bool → List IT
  | 0, _, _, _ => []
  | d + 1, k, fo, x => if k < n then ⟨((nxS n f k).1 : Int), (fr : Int) + (k : Int), ((nxS n f k).2.1 : Int), fo, x, nb, pb⟩ :: textF n f fr nb pb d (k + (nxS n f k).2.1) false false else []
theorem textF_fuel (n : Nat) (f : Nat → Nat) (fr : Nat) (nb pb : Bool) : ∀ (d e k : Nat) (fo x : Bool), n - k ≤ d → n - k ≤ e → textF n f fr nb pb d k fo x = textF n f fr nb pb e k fo x
  | 0, 0, k, fo, x, _, _ => rfl
  | 0, e + 1, k, fo, x, h, _ => by
    unfold textF
    rw [if_neg (by omega)]
  | d + 1, 0, k, fo, x, _, h => by
    unfold textF
    rw [if_neg (by omega)]
  | d + 1, e + 1, k, fo, x, hd, he => by
    unfold textF
    by_cases h : k < n
    · have := nxS_size n f k h
      rw [if_pos h, if_pos h, textF_fuel n f fr nb pb d e (k + (nxS n f k).2.1) false false (by omega) (by omega)]
    · rw [if_neg h, if_neg h]
theorem textF_next (n : Nat) (f : Nat → Nat) (fr : Nat) (nb pb : Bool) (k : Nat) (fo x : Bool) (h : k < n) :
    textF n f fr nb pb (n - k) k fo x = ⟨((nxS n f k).1 : Int), (fr : Int) + (k : Int), ((nxS n f k).2.1 : Int), fo, x, nb, pb⟩ :: textF n f fr nb pb (n - (k + (nxS n f k).2.1)) (k + (nxS n f k).2.1) false false := by
  have hs := nxS_size n f k h
  obtain ⟨d, hd⟩ : ∃ d, n - k = d + 1 := ⟨n - k - 1, by omega⟩
  rw [hd]
  conv => lhs; unfold textF
  rw [if_pos h, textF_fuel n f fr nb pb d (n - (k + (nxS n f k).2.1)) _ _ _ (by omega) (Nat.le_refl _)]
theorem textF_end (n : Nat) (f : Nat → Nat) (fr : Nat) (nb pb : Bool) (k : Nat) (fo x : Bool) (h : ¬ k < n) : ∀ d, textF n f fr nb pb d k fo x = []
  | 0 => rfl
  | d + 1 => by
    unfold textF
    rw [if_neg h]
theorem textF_len (n : Nat) (f : Nat → Nat) (fr : Nat) (nb pb : Bool) : ∀ (d k : Nat) (fo x : Bool), (textF n f fr nb pb d k fo x).length ≤ n - k
  | 0, k, fo, x => Nat.zero_le _
  | d + 1, k, fo, x => by
    unfold textF
    by_cases h : k < n
    · have := nxS_size n f k h
      have := textF_len n f fr nb pb d (k + (nxS n f k).2.1) false false
      rw [if_pos h, List.length_cons]
      omega
    · rw [if_neg h]
      exact Nat.zero_le _
theorem bs_fz {X : Nat → Prop} {w w' : World} {b off n : Nat} {f : Nat → Nat} (hf : Fz X w w') (hX : ¬ X b) (h : S.Bs w b off n f) : S.Bs w' b off n f := fun j hj => by
  have h0 := h j hj
  refine ⟨?_, h0.2⟩
  rw [← h0.1]
  unfold World.cell?
  have := hf.block b (cell_lt h0.1) hX
  rw [this]
theorem tabs_fz {X : Nat → Prop} {w w' : World} (hf : Fz X w w') (hX : ∀ k, k < 5 → ¬ X k) (h : S.Tabs w) : S.Tabs w' :=
  h.below (hf.below (B := 5) h.2 hX) (Nat.le_refl _)
theorem own_gx {w w' : World} {B gx : Nat} {l : List IT} {v : Value} (hf : Fz (fun k => k = gx) w w') (h : OwnIt w B l v) (hg : gx < B) : OwnIt w' B l v :=
  own_fz hf h (fun k hk e => by have := (own_block_lt h k e).1; omega)
theorem Fz.below2 {X : Nat → Prop} {w w1 w2 : World} {B : Nat} (h : Fz X w w1) (hb : Below B w1 w2) (hB : w.heap.size ≤ B) : Fz X w w2 :=
  ⟨hb.os.trans h.os, hb.tape.trans h.tape, hb.output.trans h.output, Nat.le_trans h.size hb.size, fun k hk hn => (hb.block k (by omega)).trans (h.block k hk hn)⟩
set_option maxRecDepth 100000 in
set_option maxHeartbeats 8000000 in
theorem text_any (gn gx : Nat) (c : Ct) (fo x : Bool) (fr : Nat) (hfr : fr ≤ 100000) (b off n cap : Nat) (f : Nat → Nat) (hn0 : n ≤ 100000) (hc : n ≤ cap) (hm : cap ≤ maxLen) (w : World) (hT : S.Tabs w) (hB : S.Bs w b off n f)
    (hx : Cells w gx 63 (exA gn fo x)) (hn : NeAt w gn c) (hbx : b ≠ gx) (hgn : gn ≠ gx) (hg5 : 5 ≤ gx) :
    Calls Tryz.prog 26 #[.pointer (some ⟨gx, 0, none⟩), .int .i64 (fr : Int), .slice (some ⟨b, off, none⟩) n cap] w fun e w' => ∃ v, e = .returned v ∧
      OwnIt w' w.heap.size (textF n f fr (decide (0 < c.n)) (decide (0 < c.p)) n 0 fo x) v ∧ Cells w' gx 63 (exA gn (fo && decide (n = 0)) (x && decide (n = 0))) ∧ Fz (fun k => k = gx) w w' := by
  obtain ⟨nb, hnb⟩ : ∃ q, decide (0 < c.n) = q := ⟨_, rfl⟩
  obtain ⟨pb, hpb⟩ : ∃ q, decide (0 < c.p) = q := ⟨_, rfl⟩
  have CI : ∀ (fo x : Bool) (r at_ sz : Int) (W : World), Cells W gx 63 (exA gn fo x) → Fz (fun k => k = gx) w W → Calls Tryz.prog 27 #[.pointer (some ⟨gx, 0, none⟩), .int .i32 r, .int .i64 at_, .int .i64 sz] W fun e w' =>
      e = .returned (.agg #[.int .i32 r, .int .i64 at_, .int .i64 sz, .bool fo, .bool x, .bool nb, .bool pb]) ∧ Cells w' gx 63 (exA gn false false) ∧ Fz (fun k => k = gx) W w' := fun fo x r at_ sz W h1 h2 => by
    have C := item_any gn gx c fo x r at_ sz W h1 (h2.cellsK hgn hn)
    rw [hnb, hpb] at C
    exact C
  have CX : ∀ (k : Nat) (W : World), k < n → Fz (fun k => k = gx) w W → Calls Tryz.prog 43 #[.slice (some ⟨b, off, none⟩) n cap, .int .i64 k] W fun e w' =>
      e = .returned (.tuple #[.int .i32 ((nxS n f k).1 : Int), .int .i64 ((nxS n f k).2.1 : Int)]) ∧ Below W.heap.size W w' := fun k W hk h2 =>
    S.next_in b off n cap k f W (tabs_fz h2 (by intro k hk; omega) hT) (bs_fz h2 hbx hB) hk hc hm
  rw [hnb, hpb]
  have hgw : gx < w.heap.size := hx.lt
  obtain ⟨ALL, hALL⟩ : ∃ L, textF n f fr nb pb n 0 fo x = L := ⟨_, rfl⟩
  rw [hALL]
  have HC := Lib.hid (And.intro CI CX)
  have HL := Lib.hid (And.intro hALL (And.intro hx hgw))
  clear CI CX hALL hx hT hB hn hnb hpb
  go_enter Tryz.func26, Tryz.ntmps26
  go_wp2_with fail
  go_loopw [7, 8, 9, 10] (fun o i _ _ wr => ∃ (k : Nat) (pre : List IT), k ≤ n ∧ i = .int .i64 (k : Int) ∧ pre.length ≤ k ∧ OwnIt wr w.heap.size pre o ∧ pre ++ textF n f fr nb pb (n - k) k (fo && decide (k = 0)) (x && decide (k = 0)) = ALL ∧ Cells wr gx 63 (exA gn (fo && decide (k = 0)) (x && decide (k = 0))) ∧ Fz (fun k => k = gx) w wr) (fun _ i _ _ _ => n - (RowKit.intOf i).toNat)
  case atStart => exact ⟨0, [], Nat.zero_le _, rfl, Nat.zero_le _, ownIt_nil _ _, by simpa using HL.out.1, by simpa using HL.out.2.1, Fz.refl _ _⟩
  case round =>
    obtain ⟨k, pre, hk, rfl, hpl, ho, hall, hcx, hf⟩ := hrel
    obtain ⟨fk, hfk⟩ : ∃ q, (fo && decide (k = 0)) = q := ⟨_, rfl⟩
    obtain ⟨xk, hxk⟩ : ∃ q, (x && decide (k = 0)) = q := ⟨_, rfl⟩
    rw [hfk, hxk] at hall hcx
    by_cases hkn : k < n
    case pos =>
      have C1 := HC.out.2 k _ hkn hf
      have hs := nxS_size n f k hkn
      have hnx := textF_next n f fr nb pb k fk xk hkn
      obtain ⟨P, hP⟩ : ∃ P, nxS n f k = P := ⟨_, rfl⟩
      rw [hP] at C1 hs hnx
      obtain ⟨r, sz, bk⟩ := P
      simp only at C1 hs hnx
      rw [hnx] at hall
      have hs1 := hs.1
      have hs2 : k + sz ≤ n := by omega
      have i1 : (k : Int) < (n : Int) := by omega
      have i2 : (k : Int) ≤ 100000 := by omega
      have i3 : (fr : Int) ≤ 100000 := by omega
      have i4 : (sz : Int) ≤ 100000 := by omega
      have e1 : wrap64 ((fr : Int) + (k : Int)) = (fr : Int) + (k : Int) := IntWalk.wrap64_in _ ⟨by omega, by omega⟩
      have e2 : wrap64 ((k : Int) + (sz : Int)) = (k : Int) + (sz : Int) := IntWalk.wrap64_in _ ⟨by omega, by omega⟩
      have H1 := Lib.hid (And.intro ho (And.intro hall (And.intro hcx (And.intro hf (And.intro hpl (And.intro hs1 hs2))))))
      clear ho hall hcx hf hpl hs hnx hs1 hs2 hfk hxk
      go_wp2_with fail
      refine C1.mono ?_
      rintro e w2 ⟨rfl, b2⟩
      clear C1
      have C2 := HC.out.1 fk xk (r : Int) ((fr : Int) + (k : Int)) (sz : Int) w2 (H1.out.2.2.1.on b2) (H1.out.2.2.2.1.trans (Fz.of_below b2))
      have H2 := Lib.hid (And.intro (H1.out.1.below b2) (H1.out.2.2.2.1.trans (Fz.of_below b2)))
      clear b2
      go_wp2_with fail
      refine C2.mono ?_
      rintro e w3 ⟨rfl, hc3, hf3⟩
      clear C2
      have H3 := Lib.hid (And.intro (own_gx hf3 H2.out.1 HL.out.2.2) (And.intro (H2.out.2.trans hf3) hc3))
      clear hc3 hf3
      have hbase : w.heap.size ≤ w3.heap.size := H3.out.2.1.size
      have hpre : pre.length ≤ 1000000 := by have := H1.out.2.2.2.2.1; omega
      go_wp2_with (at_builtin; refine wpList_appI rfl (.tmp 21) (.tmp 29) rfl w.heap.size _ pre ⟨(r : Int), (fr : Int) + (k : Int), (sz : Int), fk, xk, nb, pb⟩ rfl w3 H3.out.1 rfl rfl hpre hbase ?_)
      intro g cp w4 o4 b4 u4
      have hend : ∃ (k' : Nat) (pre' : List IT), k' ≤ n ∧ Value.int .i64 ((k : Int) + (sz : Int)) = .int .i64 (k' : Int) ∧ pre'.length ≤ k' ∧ OwnIt w4 w.heap.size pre' (.slice (some ⟨g, 0, none⟩) (pre.length + 1) cp) ∧ pre' ++ textF n f fr nb pb (n - k') k' (fo && decide (k' = 0)) (x && decide (k' = 0)) = ALL ∧ Cells w4 gx 63 (exA gn (fo && decide (k' = 0)) (x && decide (k' = 0))) ∧ Fz (fun k => k = gx) w w4 := by
        have hz : decide (k + sz = 0) = false := decide_eq_false (by have := H1.out.2.2.2.2.2.1; omega)
        refine ⟨k + sz, pre ++ [⟨(r : Int), (fr : Int) + (k : Int), (sz : Int), fk, xk, nb, pb⟩], H1.out.2.2.2.2.2.2, by simp, by have := H1.out.2.2.2.2.1; have := H1.out.2.2.2.2.2.1; simp; omega, o4, ?_, ?_, H3.out.2.1.below2 b4 (Nat.le_refl _)⟩
        · rw [hz, Bool.and_false, Bool.and_false, List.append_assoc]
          exact H1.out.2.1
        · rw [hz, Bool.and_false, Bool.and_false]
          exact (b4.block _ HL.out.2.2).trans H3.out.2.2
      have HEND := Lib.hid hend
      clear hend o4 b4 u4 hbase hpre
      go_wp2_with fail
      go_roundw
      case rel => exact HEND.out
      case measure =>
        have h1 := H1.out.2.2.2.2.2.1
        have h2 := H1.out.2.2.2.2.2.2
        have e3 : ((k : Int) + (sz : Int)).toNat = k + sz := by omega
        simp [RowKit.intOf]
        omega
    case neg =>
      obtain rfl : k = n := by omega
      have i1 : ¬ (k : Int) < (k : Int) := by omega
      rw [textF_end _ _ _ _ _ _ _ _ hkn, List.append_nil] at hall
      subst hall
      have H1 := Lib.hid (And.intro ho (And.intro hcx hf))
      have HF := Lib.hid (And.intro hfk hxk)
      clear ho hcx hf hfk hxk hpl hkn hk
      go_wp2_with fail
      go_ret
      refine ⟨_, rfl, H1.out.1, ?_, H1.out.2.2⟩
      rw [HF.out.1, HF.out.2]
      exact H1.out.2.1
end Go.Proofs.YtojinnnpfjhifaaGreatDoor.K

namespace Go.Proofs.YtojinnnpfjhifaaGreatDoor.K
open Go.RowKit Go.Shelf Go.Lib Go.Maps
attribute [local irreducible] nmL ofN

set_option maxRecDepth 100000 in
set_option maxHeartbeats 4000000 in
theorem xtake_nil (tok : Array Value) (a : Value) (w : World) : Calls Tryz.prog 15 #[.pointer none, .agg tok, a] w fun e w' => e = .returned (.slice none 0 0) ∧ Below w.heap.size w w' := by
  obtain ⟨W1, hW1⟩ : ∃ V, w.alloc (.cells tok 40) = V := ⟨_, rfl⟩
  have HB := Lib.hid (show Below w.heap.size w W1 by rw [← hW1]; exact below_new w _)
  have HW := Lib.hid hW1
  clear hW1
  go_enter Tryz.func15, Tryz.ntmps15
  go_wp2_with fail
  rw [HW.out]
  go_wp2_with fail
  go_ret
  exact ⟨rfl, HB.out⟩
/-- What Take hands over. -/
def tkI (kd fr tt : Nat) (r : Int) (n : Nat) (h : Nat → Nat) (c : Ct) (f x : Bool) : List IT :=
  if 0 < c.h then [] else if kd = 0 then textF n h fr (decide (0 < c.n)) (decide (0 < c.p)) n 0 f x
  else if kd = 1 then [⟨r, (fr : Int), (tt : Int) - (fr : Int), f, x, decide (0 < c.n), decide (0 < c.p)⟩] else []
def tkG (kd : Nat) (c : Ct) (f : Bool) : Bool := if 0 < c.h then f else if kd = 0 ∨ kd = 1 then false else f
/-- What lies about an extractor. -/
structure TW (w : World) (gn gx : Nat) (c : Ct) (f x : Bool) (tok : Array Value) (W : World) : Prop where
  n : NeAt W gn c
  x : Cells W gx 63 (exA gn f x)
  t : Cells W w.heap.size 40 tok
  z : Fz (fun k => k = gn ∨ k = gx) w W
  m : MX W
theorem ownIt_lit (w : World) (t : IT) : OwnIt (w.alloc (.cells (itA t) 42)) w.heap.size [t] (.slice (some ⟨w.heap.size, 0, none⟩) 1 1) := by
  have h := World.ownsRow_lit (base := w.heap.size) (e := 42) (size := 7) w (itA t) 1 (Nat.le_refl _) (by unfold maxLen; omega) rfl
  have e : rowI [t] = (itA t).toList := by simp [rowI]
  unfold OwnIt
  rw [e]
  exact h
theorem exA_set {W : World} {gn gx : Nat} {f x : Bool} (h : Cells W gx 63 (exA gn f x)) (a b : Bool) : Cells ((W.setCell ⟨gx, 1, none⟩ (.bool a)).setCell ⟨gx, 2, none⟩ (.bool b)) gx 63 (exA gn a b) := (h.set 1 (.bool a)).set 2 (.bool b)
set_option maxRecDepth 100000 in
set_option maxHeartbeats 8000000 in
theorem xtake_any (kd fr tt : Nat) (nm : ByteArray) (r : Int) (sg : Bool) (hl : nm.size ≤ 1000000) (gn gx : Nat) (hgn : gn ≠ gx) (hg5 : 5 ≤ gx) (hn5 : 5 ≤ gn) (c : Ct) (hc : c.ok) (f x : Bool) (A : Option Addr) (n cap : Nat) (h : Nat → Nat) (hn0 : n ≤ 100000) (hc1 : n ≤ cap) (hm : cap ≤ maxLen)
    (hft : fr ≤ tt) (htt : tt ≤ 100000) (w : World) (hn : NeAt w gn c) (hx : Cells w gx 63 (exA gn f x)) (hM : MX w) (hT : S.Tabs w) (hB : kd = 0 → ∃ b off, A = some ⟨b, off, none⟩ ∧ S.Bs w b off n h ∧ b ≠ gx ∧ b ≠ gn ∧ 0 < n) :
    Calls Tryz.prog 15 #[.pointer (some ⟨gx, 0, none⟩), .agg (tkA (kd : Int) (fr : Int) (tt : Int) nm r sg), .slice A n cap] w fun e w' => ∃ v, e = .returned v ∧
      OwnIt w' w.heap.size (tkI kd fr tt r n h (takeC (nameN nm) kd sg c) (f || takeF (nameN nm) kd c) (x || takeX (nameN nm) kd c)) v ∧
      (tkI kd fr tt r n h (takeC (nameN nm) kd sg c) (f || takeF (nameN nm) kd c) (x || takeX (nameN nm) kd c) = [] → v = .slice none 0 0) ∧
      NeAt w' gn (takeC (nameN nm) kd sg c) ∧ Cells w' gx 63 (exA gn (tkG kd (takeC (nameN nm) kd sg c) (f || takeF (nameN nm) kd c)) (tkG kd (takeC (nameN nm) kd sg c) (x || takeX (nameN nm) kd c))) ∧ Fz (fun k => k = gn ∨ k = gx) w w' := by
  have CT := fun W (h1 : NeAt W gn c) (h2 : MX W) => take_any (kd : Int) (fr : Int) (tt : Int) nm r sg hl gn c hc W h1 h2
  obtain ⟨F, hF⟩ : ∃ q, takeF (nameN nm) (kd : Int) c = q := ⟨_, rfl⟩
  obtain ⟨X, hX⟩ : ∃ q, takeX (nameN nm) (kd : Int) c = q := ⟨_, rfl⟩
  obtain ⟨c', hce⟩ : ∃ q, takeC (nameN nm) (kd : Int) sg c = q := ⟨_, rfl⟩
  simp only [hF, hX, hce] at CT
  rw [hF, hX, hce]
  clear hF hX hce hc hl
  have CH := fun W (h1 : NeAt W gn c') => hid_any gn c' W h1
  have hgw : gx < w.heap.size := hx.lt
  have hnw : gn < w.heap.size := Cells.lt hn
  have CX : kd = 0 → ∀ W : World, Cells W gx 63 (exA gn (f || F) (x || X)) → NeAt W gn c' → Fz (fun k => k = gn ∨ k = gx) w W → Calls Tryz.prog 26 #[.pointer (some ⟨gx, 0, none⟩), .int .i64 (fr : Int), .slice A n cap] W fun e w' => ∃ v, e = .returned v ∧
      OwnIt w' W.heap.size (textF n h fr (decide (0 < c'.n)) (decide (0 < c'.p)) n 0 (f || F) (x || X)) v ∧ Cells w' gx 63 (exA gn false false) ∧ Fz (fun k => k = gx) W w' := fun h0 W h1 h2 h3 => by
    obtain ⟨b, off, rfl, k1, k2, k3, k4⟩ := hB h0
    have C := text_any gn gx c' (f || F) (x || X) fr (by omega) b off n cap h hn0 hc1 hm W (tabs_fz h3 (by intro k hk; omega) hT) (bs_fz h3 (by omega) k1) h1 h2 k2 hgn hg5
    rw [decide_eq_false (show ¬ n = 0 by omega), Bool.and_false, Bool.and_false] at C
    exact C
  have CI := fun (W : World) (h1 : Cells W gx 63 (exA gn (f || F) (x || X))) (h2 : NeAt W gn c') => item_any gn gx c' (f || F) (x || X) r (fr : Int) ((tt : Int) - (fr : Int)) W h1 h2
  have n0 : kd = 0 → 0 < n := fun h0 => by obtain ⟨_, _, _, _, _, _, k4⟩ := hB h0; exact k4
  obtain ⟨L, hL⟩ : ∃ q, tkI kd fr tt r n h c' (f || F) (x || X) = q := ⟨_, rfl⟩
  obtain ⟨G1, hG1⟩ : ∃ q, tkG kd c' (f || F) = q := ⟨_, rfl⟩
  obtain ⟨G2, hG2⟩ : ∃ q, tkG kd c' (x || X) = q := ⟨_, rfl⟩
  rw [hL, hG1, hG2]
  obtain ⟨W1, hW1⟩ : ∃ V, w.alloc (.cells (tkA (kd : Int) (fr : Int) (tt : Int) nm r sg) 40) = V := ⟨_, rfl⟩
  have b1 : Below w.heap.size w W1 := by rw [← hW1]; exact below_new w _
  have t1 : Cells W1 w.heap.size 40 (tkA (kd : Int) (fr : Int) (tt : Int) nm r sg) := by rw [← hW1]; exact cells_new _ _ _
  have h1 : TW w gn gx c f x (tkA (kd : Int) (fr : Int) (tt : Int) nm r sg) W1 := ⟨Cells.on hn b1, hx.on b1, t1, Fz.of_below b1, hM.on hM.pos b1⟩
  have q0 : W1.cell? ⟨gx, 0, none⟩ = some (.pointer (some ⟨gn, 0, none⟩)) := h1.x.cell 0
  have x0 : W1.cell? ⟨w.heap.size, 0, none⟩ = some (.int .i64 (kd : Int)) := h1.t.cell 0
  have x1 : W1.cell? ⟨w.heap.size, 1, none⟩ = some (.int .i64 (fr : Int)) := h1.t.cell 1
  have x2 : W1.cell? ⟨w.heap.size, 2, none⟩ = some (.int .i64 (tt : Int)) := h1.t.cell 2
  have x3 : W1.cell? ⟨w.heap.size, 3, none⟩ = some (.string nm) := h1.t.cell 3
  have x4 : W1.cell? ⟨w.heap.size, 4, none⟩ = some (.int .i32 r) := h1.t.cell 4
  have x5 : W1.cell? ⟨w.heap.size, 5, none⟩ = some (.bool sg) := h1.t.cell 5
  have HW := Lib.hid hW1
  have H1 := Lib.hid h1
  have HC := Lib.hid (And.intro CT (And.intro CH (And.intro CX CI)))
  have HL := Lib.hid (And.intro hL (And.intro hG1 (And.intro hG2 n0)))
  have HG := Lib.hid (And.intro hgw (And.intro hnw (And.intro hft htt)))
  clear CT CH CX CI hL hG1 hG2 n0 hW1 b1 t1 h1 hn hx hM hT hB hn0 hft htt
  have g0 : ∀ p : Later (fun k => k = gn) W1, p.W.cell? ⟨gx, 0, none⟩ = some (.pointer (some ⟨gn, 0, none⟩)) := fun p => cell_later q0 (fun e => hgn e.symm) p
  have y0 : ∀ p : Later (fun k => k = gn) W1, p.W.cell? ⟨w.heap.size, 0, none⟩ = some (.int .i64 (kd : Int)) := fun p => cell_later x0 (by omega) p
  have y1 : ∀ p : Later (fun k => k = gn) W1, p.W.cell? ⟨w.heap.size, 1, none⟩ = some (.int .i64 (fr : Int)) := fun p => cell_later x1 (by omega) p
  have y2 : ∀ p : Later (fun k => k = gn) W1, p.W.cell? ⟨w.heap.size, 2, none⟩ = some (.int .i64 (tt : Int)) := fun p => cell_later x2 (by omega) p
  have y3 : ∀ p : Later (fun k => k = gn) W1, p.W.cell? ⟨w.heap.size, 3, none⟩ = some (.string nm) := fun p => cell_later x3 (by omega) p
  have y4 : ∀ p : Later (fun k => k = gn) W1, p.W.cell? ⟨w.heap.size, 4, none⟩ = some (.int .i32 r) := fun p => cell_later x4 (by omega) p
  have y5 : ∀ p : Later (fun k => k = gn) W1, p.W.cell? ⟨w.heap.size, 5, none⟩ = some (.bool sg) := fun p => cell_later x5 (by omega) p
  have eM : gn < w.heap.size := HG.out.2.1
  have h0p : 0 < gn := by omega
  unfold tkA at HC HW
  unfold tkA
  have hgx' : ¬ gn = gx := hgn
  have HGX := Lib.hid hgx'
  clear hg5 hn5 hgx'
  go_enter Tryz.func15, Tryz.ntmps15

  go_upto_region 3 with fail
  rw [HW.out]
  go_cut [7, 8] from 11 to 19 (fun a b wx => a = .bool F ∧ b = .bool X ∧ TW w gn gx c' f x (tkA (kd : Int) (fr : Int) (tt : Int) nm r sg) wx)
  case first =>
    refine wp_region_mixF (fun i => if 5 ≤ i then 2 else 0) [0, 1, 2, 3, 4] 6 (fun w' => ∃ p : Later (fun k => k = gn) W1, w' = p.W) (by kernel_rfl) (by kernel_rfl) ⟨⟨_, Fz.drew W1⟩, rfl⟩ ?_
    simp only [opsAt, List.filterMap_cons, List.filterMap_nil, List.getElem?_toArray, List.getElem?_cons_zero, List.getElem?_cons_succ]
    change wpQuiet _ _ _ _ [_, _, _, _, _] _
    repeat (go_big_quiet_step (fail))
    refine wpQuiet_nil ?_
    clear g0 y0 y1 y2 y3 y4 y5
    have z0 : Fz (fun k => k = gn) W1 { W1 with drawn := W1.drawn + 1 } := Fz.drew W1
    have C1 := HC.out.1 { W1 with drawn := W1.drawn + 1 } H1.out.n H1.out.m
    refine wpFreeM_step [5] (by kernel_rfl) ⟨?_, trivial⟩
    refine wpOp_of_list rfl ?_
    go_wp2_with fail
    refine C1.mono ?_
    rintro e w5 ⟨rfl, hn5, hf5⟩
    have hfz := z0.trans hf5
    have hpw : TW w gn gx c' f x (tkA (kd : Int) (fr : Int) (tt : Int) nm r sg) w5 := ⟨hn5, hfz.cellsK (fun e => hgn e.symm) H1.out.x, hfz.cellsK (by omega) H1.out.t, H1.out.z.trans (hfz.mono (fun k hk => .inl hk)), H1.out.m.fz hfz h0p⟩
    have H5 := Lib.hid (And.intro hpw hfz)
    clear hn5 hf5 hfz hpw C1 z0
    go_wp2_with fail
    refine ⟨⟨⟨_, H5.out.2⟩, rfl⟩, ?_⟩
    refine wpFreeM_step [6] (by kernel_rfl) ⟨?_, trivial⟩
    refine wpOp_of_list rfl ?_
    go_wp2_with fail
    refine ⟨⟨⟨_, H5.out.2⟩, rfl⟩, ?_⟩
    refine wpFreeM_step [7, 8] (by kernel_rfl) ⟨?_, ?_, trivial⟩
    · refine wpOp_of_list rfl ?_
      go_wp2_with fail
      refine ⟨⟨⟨_, H5.out.2⟩, rfl⟩, ?_⟩
      refine wpFreeM_step [8, 9] (by kernel_rfl) ⟨?_, ?_, trivial⟩
      · refine wpOp_of_list rfl ?_
        go_wp2_with fail
        refine ⟨⟨⟨_, H5.out.2⟩, rfl⟩, ?_⟩
        refine wpFreeM_step [9] (by kernel_rfl) ⟨?_, trivial⟩
        refine wpOp_of_list rfl ?_
        go_wp2_with fail
        refine ⟨⟨⟨_, H5.out.2⟩, rfl⟩, ?_⟩
        refine wpFreeM_step [10] (by kernel_rfl) ⟨?_, trivial⟩
        refine wpOp_of_list rfl ?_
        go_wp2_with fail
        refine ⟨⟨⟨_, H5.out.2⟩, rfl⟩, ?_⟩
        unfold wpFreeM
        go_wp2_with fail
        go_meet
        exact ⟨rfl, rfl, H5.out.1⟩
      · refine wpOp_of_list rfl ?_
        go_wp2_with fail
        refine ⟨⟨⟨_, H5.out.2⟩, rfl⟩, ?_⟩
        refine wpFreeM_step [8] (by kernel_rfl) ⟨?_, trivial⟩
        refine wpOp_of_list rfl ?_
        go_wp2_with fail
        refine ⟨⟨⟨_, H5.out.2⟩, rfl⟩, ?_⟩
        refine wpFreeM_step [10] (by kernel_rfl) ⟨?_, trivial⟩
        refine wpOp_of_list rfl ?_
        go_wp2_with fail
        refine ⟨⟨⟨_, H5.out.2⟩, rfl⟩, ?_⟩
        unfold wpFreeM
        go_wp2_with fail
        go_meet
        exact ⟨rfl, rfl, H5.out.1⟩
    · refine wpOp_of_list rfl ?_
      go_wp2_with fail
      refine ⟨⟨⟨_, H5.out.2⟩, rfl⟩, ?_⟩
      refine wpFreeM_step [7] (by kernel_rfl) ⟨?_, trivial⟩
      refine wpOp_of_list rfl ?_
      go_wp2_with fail
      refine ⟨⟨⟨_, H5.out.2⟩, rfl⟩, ?_⟩
      refine wpFreeM_step [9] (by kernel_rfl) ⟨?_, trivial⟩
      refine wpOp_of_list rfl ?_
      go_wp2_with fail
      refine ⟨⟨⟨_, H5.out.2⟩, rfl⟩, ?_⟩
      refine wpFreeM_step [10] (by kernel_rfl) ⟨?_, trivial⟩
      refine wpOp_of_list rfl ?_
      go_wp2_with fail
      refine ⟨⟨⟨_, H5.out.2⟩, rfl⟩, ?_⟩
      unfold wpFreeM
      go_wp2_with fail
      go_meet
      exact ⟨rfl, rfl, H5.out.1⟩
  case rest =>
    obtain ⟨rfl, rfl, h5⟩ := hcut
    obtain ⟨wa, rfl⟩ : ∃ W : World, W = wc := ⟨_, rfl⟩
    clear g0 y0 y1 y2 y3 y4 y5 x0 x1 x2 x3 x4 x5 q0
    have q0 : wa.cell? ⟨gx, 0, none⟩ = some (.pointer (some ⟨gn, 0, none⟩)) := h5.x.cell 0
    have q1 : wa.cell? ⟨gx, 1, none⟩ = some (.bool f) := h5.x.cell 1
    have q2 : wa.cell? ⟨gx, 2, none⟩ = some (.bool x) := h5.x.cell 2
    have k1 := h5.x.froz 1
    have k2 := h5.x.froz 2
    have H5 := Lib.hid h5
    clear h5
    go_upto_region 4 with fail
    go_cut [7, 8] from 20 to 39 (fun _ _ wx => wx = ((wa.setCell ⟨gx, 1, none⟩ (.bool (f || F))).setCell ⟨gx, 2, none⟩ (.bool (x || X))).drew)
    case first =>
      cases f <;> cases x
      all_goals (go_region; all_goals (go_wp2_with fail; go_meet; exact rfl))
    case rest =>
      have z : Fz (fun k => k = gx) wa wc := by
        rw [hcut]
        exact ((Fz.set (X := fun k => k = gx) _ gx 1 _ rfl).trans (Fz.set (X := fun k => k = gx) _ gx 2 _ rfl)).trans (Fz.drew _)
      have hx6 : Cells wc gx 63 (exA gn (f || F) (x || X)) := by
        rw [hcut]
        exact exA_set H5.out.x (f || F) (x || X)
      have hgw := HG.out.1
      have ht6 := z.cellsK (show ¬ w.heap.size = gx by omega) H5.out.t
      have hn6 : NeAt wc gn c' := z.cellsK hgn H5.out.n
      have hz6 : Fz (fun k => k = gn ∨ k = gx) w wc := H5.out.z.trans (z.mono (fun k hk => .inr hk))
      have p0 : wc.cell? ⟨gx, 0, none⟩ = some (.pointer (some ⟨gn, 0, none⟩)) := hx6.cell 0
      have p1 : wc.cell? ⟨w.heap.size, 0, none⟩ = some (.int .i64 (kd : Int)) := ht6.cell 0
      have p2 : wc.cell? ⟨w.heap.size, 1, none⟩ = some (.int .i64 (fr : Int)) := ht6.cell 1
      have p3 : wc.cell? ⟨w.heap.size, 2, none⟩ = some (.int .i64 (tt : Int)) := ht6.cell 2
      have p4 : wc.cell? ⟨w.heap.size, 4, none⟩ = some (.int .i32 r) := ht6.cell 4
      have CH := HC.out.2.1 wc hn6
      have H6 := Lib.hid (And.intro hn6 (And.intro hx6 (And.intro ht6 hz6)))
      obtain ⟨fF, hfF⟩ : ∃ q, (f || F) = q := ⟨_, rfl⟩
      obtain ⟨xX, hxX⟩ : ∃ q, (x || X) = q := ⟨_, rfl⟩
      rw [hfF, hxX] at HL HC H6
      obtain ⟨ch, hch⟩ : ∃ q, c'.h = q := ⟨_, rfl⟩
      rw [hch] at CH
      have HD := Lib.hid hch
      clear z hx6 ht6 hn6 hz6 hcut q0 q1 q2 k1 k2 hgw hgn hfF hxX hch
      by_cases hh : 0 < ch
      case pos =>
        have i1 : (0 : Int) < (ch : Int) := by omega
        have e := HL.out
        unfold tkI tkG at e
        rw [HD.out, if_pos hh, if_pos hh, if_pos hh] at e
        have HE := Lib.hid e
        clear e hh
        go_wp2_with fail
        refine CH.mono ?_
        rintro e _ ⟨rfl, rfl⟩
        clear CH
        go_wp2_with fail
        go_ret
        refine ⟨_, rfl, ?_, fun _ => rfl, H6.out.1, ?_, H6.out.2.2.2⟩
        · rw [← HE.out.1]
          exact ownIt_nil _ _
        · rw [← HE.out.2.1, ← HE.out.2.2.1]
          exact H6.out.2.1
      case neg =>
        have i1 : ¬ (0 : Int) < (ch : Int) := by omega
        have e := HL.out
        unfold tkI tkG at e
        rw [HD.out, if_neg hh, if_neg hh, if_neg hh] at e
        clear hh
        by_cases k0 : kd = 0
        case pos =>
          rw [if_pos k0, if_pos (.inl k0), if_pos (.inl k0)] at e
          have CX := HC.out.2.2.1 k0 wc H6.out.2.1 H6.out.1 H6.out.2.2.2
          have e0 : ((kd : Int) == 0) = true := by rw [k0]; rfl
          rw [e.1] at CX
          have hne : L ≠ [] := by
            rw [← e.1]
            have h0 := e.2.2.2 k0
            have h9 := textF_next n h fr (decide (0 < c'.n)) (decide (0 < c'.p)) 0 fF xX h0
            rw [Nat.sub_zero] at h9
            rw [h9]
            exact List.cons_ne_nil _ _
          have HE := Lib.hid (And.intro e hne)
          clear e hne k0
          go_wp2_with fail
          refine CH.mono ?_
          rintro e _ ⟨rfl, rfl⟩
          clear CH
          go_wp2_with fail
          refine CX.mono ?_
          rintro e w7 ⟨v, rfl, ho, hx7, hz7⟩
          have H7 := Lib.hid (And.intro ho (And.intro hx7 hz7))
          clear ho hx7 hz7 CX
          go_wp2_with fail
          go_ret
          refine ⟨_, rfl, H7.out.1.lower H6.out.2.2.2.size, fun q => absurd q HE.out.2, ?_, ?_, H6.out.2.2.2.trans (H7.out.2.2.mono (fun k hk => .inr hk))⟩
          · exact H7.out.2.2.cellsK HGX.out H6.out.1
          · rw [← HE.out.1.2.1, ← HE.out.1.2.2.1]
            exact H7.out.2.1
        case neg =>
          have e0 : ((kd : Int) == 0) = false := by
            have : ¬ (kd : Int) = 0 := by omega
            simpa using this
          rw [if_neg k0] at e
          by_cases k1 : kd = 1
          case pos =>
            have e1 : ((kd : Int) == 1) = true := by rw [k1]; rfl
            rw [if_pos k1, if_pos (.inr k1), if_pos (.inr k1)] at e
            have CI := HC.out.2.2.2 wc H6.out.2.1 H6.out.1
            have e3 : wrap64 ((tt : Int) - (fr : Int)) = (tt : Int) - (fr : Int) := IntWalk.wrap64_in _ ⟨by have := HG.out; omega, by have := HG.out; omega⟩
            have hne : L ≠ [] := by
              rw [← e.1]
              exact List.cons_ne_nil _ _
            obtain ⟨it, hit⟩ : ∃ q : IT, (⟨r, (fr : Int), (tt : Int) - (fr : Int), fF, xX, decide (0 < c'.n), decide (0 < c'.p)⟩ : IT) = q := ⟨_, rfl⟩
            rw [hit] at CI e
            obtain ⟨bn, hbn⟩ : ∃ q, decide (0 < c'.n) = q := ⟨_, rfl⟩
            obtain ⟨bp, hbp⟩ : ∃ q, decide (0 < c'.p) = q := ⟨_, rfl⟩
            rw [hbn, hbp] at hit
            have hita : itA it = #[.int .i32 r, .int .i64 (fr : Int), .int .i64 ((tt : Int) - (fr : Int)), .bool fF, .bool xX, .bool bn, .bool bp] := by rw [← hit]; rfl
            rw [hita] at CI
            have HE := Lib.hid (And.intro e (And.intro hne hita))
            clear e hne hit hbn hbp k1 k0 hita
            go_wp2_with fail
            refine CH.mono ?_
            rintro e _ ⟨rfl, rfl⟩
            clear CH
            go_wp2_with fail
            refine CI.mono ?_
            rintro e w7 ⟨rfl, hx7, hz7⟩
            have hl7 := ownIt_lit w7 it
            rw [HE.out.2.2] at hl7
            have b7 := below_new w7 (.cells #[.int .i32 r, .int .i64 (fr : Int), .int .i64 ((tt : Int) - (fr : Int)), .bool fF, .bool xX, .bool bn, .bool bp] 42)
            have H7 := Lib.hid (And.intro hl7 (And.intro (hx7.on b7) (hz7.trans (Fz.of_below b7))))
            have hs7 := Lib.hid hz7.size
            clear hl7 b7 hx7 hz7 CI
            go_wp2_with fail
            go_ret
            refine ⟨_, rfl, ?_, fun q => absurd q HE.out.2.1, ?_, ?_, H6.out.2.2.2.trans (H7.out.2.2.mono (fun k hk => .inr hk))⟩
            · rw [← HE.out.1.1]
              exact H7.out.1.lower (Nat.le_trans H6.out.2.2.2.size hs7.out)
            · exact H7.out.2.2.cellsK HGX.out H6.out.1
            · rw [← HE.out.1.2.1, ← HE.out.1.2.2.1]
              exact H7.out.2.1
          case neg =>
            have e1 : ((kd : Int) == 1) = false := by
              have : ¬ (kd : Int) = 1 := by omega
              simpa using this
            rw [if_neg k1, if_neg (by omega), if_neg (by omega)] at e
            have HE := Lib.hid e
            clear e k1 k0
            go_wp2_with fail
            refine CH.mono ?_
            rintro e _ ⟨rfl, rfl⟩
            clear CH
            go_wp2_with fail
            go_ret
            refine ⟨_, rfl, ?_, fun _ => rfl, H6.out.1, ?_, H6.out.2.2.2⟩
            · rw [← HE.out.1]
              exact ownIt_nil _ _
            · rw [← HE.out.2.1, ← HE.out.2.2.1]
              exact H6.out.2.1
end Go.Proofs.YtojinnnpfjhifaaGreatDoor.K

