/-
  Contracts: strings.SplitSeq at a comma; ranges.Parse.
-/
import Derived.Maps.AppendAt
import Derived.Test.YtphhdkffnboboaaGreatDoorSp
import Derived.Test.YtphhdkffnboboaaGreatDoorSpl
import Derived.Test.YtphhdkffnboboaaGreatDoorMk
namespace Go.Proofs.YtphhdkffnboboaaGreatDoor
open Go.RowKit Go.Shelf
open Go.Lib
attribute [local go_sem] Oper.semAt_some

/-- The three variables of the iterator, made. -/
def made3 (s : ByteArray) (w : World) : World := ((w.alloc (.cells #[.string s] 9)).alloc (.cells #[.string ⟨#[44]⟩] 9)).alloc (.cells #[.int .i64 0] 3)
theorem splitSeq_any (s : ByteArray) (w : World) : Calls Tryz.prog 33 #[.string s, .string ⟨#[44]⟩, .int .i64 0] w fun e w' =>
    e = .returned (.func (.func 44) #[] #[.pointer (some ⟨w.heap.size + 1, 0, none⟩), .pointer (some ⟨w.heap.size, 0, none⟩), .pointer (some ⟨w.heap.size + 2, 0, none⟩)]) ∧ w' = made3 s w := by
  go_enter Tryz.func33, Tryz.ntmps33
  go_wp2
  go_ret
  exact ⟨rfl, rfl⟩
theorem split_any (s : ByteArray) (w : World) : Calls Tryz.prog 19 #[.string s, .string ⟨#[44]⟩] w fun e w' =>
    e = .returned (.func (.func 44) #[] #[.pointer (some ⟨w.heap.size + 1, 0, none⟩), .pointer (some ⟨w.heap.size, 0, none⟩), .pointer (some ⟨w.heap.size + 2, 0, none⟩)]) ∧ w' = made3 s w := by
  have C := Lib.hid (splitSeq_any s w)
  go_enter Tryz.func19, Tryz.ntmps19
  go_wp2_with fail
  refine C.out.mono ?_
  rintro e w1 ⟨rfl, rfl⟩
  go_wp2
  go_ret
  exact ⟨rfl, rfl⟩
theorem count_any (s : List UInt8) (w : World) : Calls Tryz.prog 18 #[.string ⟨s.toArray⟩, .string ⟨#[44]⟩] w fun e w' => e = .returned (.int .i64 (s.count 44)) ∧ w' = w := by
  have C : Calls Tryz.prog 18 #[.string ⟨s.toArray⟩, .string ⟨#[44]⟩] w _ := Any.strings_Count_one Tryz.countL ⟨s.toArray⟩ 44 w
  exact C
theorem boxed_below {W W' : World} {B t : Nat} {v : Value} (h : Boxed W B t v) (hb : Below W.heap.size W W') : Boxed W' B t v := (hb.block B h.lt).trans h
theorem keepsOthers_below {W W' : World} (hb : Below W.heap.size W W') : KeepsOthers W W' := ⟨hb.size, fun k _o hk _ => (hb.block k (Array.getElem?_eq_some_iff.1 hk).1).trans hk⟩
theorem boxed_own {β : Type} (B t : Nat) (G : Value → Prop) : Own (fun (_ : β) W => ∃ v, Boxed W B t v ∧ G v) := by
  rintro s X Y row ⟨v, hv, hG⟩ hg hr
  refine ⟨v, hv.kept hg (fun e => ?_), hG⟩
  obtain ⟨o, ho, hc⟩ := hr B e.symm
  rw [show X.heap[B]? = _ from hv] at ho
  cases ho
  cases hc
theorem boxed_far {W : World} {B t : Nat} {v : Value} (h : Boxed W B t v) (q : Nat) (u : Value) (hq : q ≠ B) : Boxed (W.setCell ⟨q, 0, none⟩ u) B t v := (Below.heap_setCell _ _ _ _ (by simpa using fun e => hq e.symm)).trans h

/-- The list that the parts that have come make. -/
def gotten (pre : List (List UInt8)) : List Rng := pre.filterMap prP
theorem gotten_some (pre : List (List UInt8)) (x : List UInt8) (r : Rng) (h : prP x = some r) : gotten (pre ++ [x]) = gotten pre ++ [r] := by unfold gotten; rw [List.filterMap_append]; simp [h]
/-- Between two rounds. -/
def PI (n₀ : Nat) (w : World) (pre : List (List UInt8)) (W : World) : Prop :=
  (((∃ v, Boxed W (n₀ + 2) 27 v ∧ W.ownsRow (n₀ + 6) 39 2 v (gotten pre).length (cells2 (gotten pre)) ∧ ((pre.all fun p => (prP p).isSome) = true ∧ ∀ x ∈ gotten pre, I32 x)) ∧
    (∃ v, Boxed W n₀ 27 v ∧ True)) ∧ (∃ v, Boxed W (n₀ + 1) 29 v ∧ True)) ∧ (Below n₀ w W ∧ n₀ + 6 ≤ W.heap.size)
/-- A round has found what is no range. -/
def PX (n₀ : Nat) (w : World) (pre : List (List UInt8)) (W : World) : Prop :=
  (((∃ v, Boxed W n₀ 27 v ∧ v = .slice none 0 0) ∧ (∃ v, Boxed W (n₀ + 1) 29 v ∧ v = .int .i64 4)) ∧ Below n₀ w W) ∧ (pre.all fun p => (prP p).isSome) = false
theorem own_pair {β : Type} {I I' : β → World → Prop} (h : Own I) (h' : Own I') : Own (fun s W => I s W ∧ I' s W) := fun s W W' row hs hg hr => ⟨h s W W' row hs.1 hg hr, h' s W W' row hs.2 hg hr⟩
theorem PI_own (n₀ : Nat) (w : World) (hn : n₀ ≤ w.heap.size) (B : Nat) (hB : n₀ ≤ B) : OwnFrom B (PI n₀ w) :=
  OwnFrom.and (Own.from (own_pair (own_pair (holdsRow_own (n₀ + 6) (n₀ + 2) 27 39 2 (fun pre => (gotten pre).length) (fun pre => cells2 (gotten pre)) (fun pre _ => (pre.all fun p => (prP p).isSome) = true ∧ ∀ x ∈ gotten pre, I32 x)) (boxed_own n₀ 27 _)) (boxed_own (n₀ + 1) 29 _)) B) (OwnFrom.and (ownFrom_below hn hB) (fun _ _ _ _ hs hg _ => Nat.le_trans hs hg.size))
theorem PX_own (n₀ : Nat) (w : World) (hn : n₀ ≤ w.heap.size) (B : Nat) (hB : n₀ ≤ B) : OwnFrom B (PX n₀ w) :=
  OwnFrom.and (OwnFrom.and (Own.from (own_pair (boxed_own n₀ 27 _) (boxed_own (n₀ + 1) 29 _)) B) (ownFrom_below hn hB)) (fun _ _ _ _ hs _ _ => hs)
theorem PI_lets (n₀ : Nat) (w : World) : Lets ⟨n₀ + 3, 0, none⟩ (PI n₀ w) := by
  rintro pre W u ⟨⟨⟨⟨v, hv, hr, hG⟩, ⟨v0, h0, _⟩⟩, ⟨v1, h1, _⟩⟩, hb, hz⟩
  refine ⟨⟨⟨⟨v, boxed_far hv _ _ (by omega), hr.kept (grownBy_setCell' W _ u) (.inr fun e => ?_), hG⟩, ⟨v0, boxed_far h0 _ _ (by omega), trivial⟩⟩, ⟨v1, boxed_far h1 _ _ (by omega), trivial⟩⟩, hb.setCell (p := ⟨n₀ + 3, 0, none⟩) (by simp) u, by simpa using hz⟩
  have := (own_block_lt hr _ e).1
  omega
theorem PX_lets (n₀ : Nat) (w : World) : Lets ⟨n₀ + 3, 0, none⟩ (PX n₀ w) := by
  rintro pre W u ⟨⟨⟨⟨v0, h0, e0⟩, ⟨v1, h1, e1⟩⟩, hb⟩, hp⟩
  exact ⟨⟨⟨⟨v0, boxed_far h0 _ _ (by omega), e0⟩, ⟨v1, boxed_far h1 _ _ (by omega), e1⟩⟩, hb.setCell (p := ⟨n₀ + 3, 0, none⟩) (by simp) u⟩, hp⟩

theorem gotten_len (s : List UInt8) (pre : List (List UInt8)) (x : List UInt8) (h : pre ++ [x] <+: splitC s) (hc : ¬ 1000 ≤ s.count 44) : (gotten pre).length + 1 ≤ 1000 := by
  have h1 : (gotten pre).length ≤ pre.length := List.length_filterMap_le _ _
  have h2 := h.length_le
  rw [splitC_len, List.length_append, List.length_singleton] at h2
  omega
theorem pair_cells (W : World) (a b : Int) : ∀ j u, ([.int .i32 a, .int .i32 b] : List Value)[j]? = some u → (W.alloc (.cells #[.int .i32 a, .int .i32 b] 39)).cell? ((Addr.mk W.heap.size 0 none).add j) = some u := fun j u hu => by
  rw [add0, World.cell?_alloc_new]
  simpa using hu
/-- A round that has appended: what lies as it lay. -/
theorem keeps3_of (q : Nat) (W W' : World) (h : ∀ b, b < q + 3 → b ≠ q - 1 → W'.heap[b]? = W.heap[b]?) (hq : 2 ≤ q) : Keeps3 q W W' := by
  have c : ∀ b, b < q + 3 → b ≠ q - 1 → W'.cell? ⟨b, 0, none⟩ = W.cell? ⟨b, 0, none⟩ := fun b h1 h2 => by unfold World.cell?; dsimp only; rw [h b h1 h2]
  have f : ∀ b, b < q + 3 → b ≠ q - 1 → W'.frozen? ⟨b, 0, none⟩ = W.frozen? ⟨b, 0, none⟩ := fun b h1 h2 => by unfold World.frozen?; dsimp only; rw [h b h1 h2]
  exact ⟨fun i hi => c _ (by omega) (by omega), fun i hi => f _ (by omega) (by omega), c 0 (by omega) (by omega)⟩

/-- What Parse hands back. -/
def ParsePost (R : Option (List Rng)) (w : World) (e : Ending) (w' : World) : Prop := Below w.heap.size w w' ∧ match R with
  | some rs => ∃ A c, e = .returned (.tuple #[.slice A rs.length c, .int .i64 0]) ∧ SW w' A c rs
  | none => e = .returned (.tuple #[.slice none 0 0, .int .i64 4])
end Go.Proofs.YtphhdkffnboboaaGreatDoor
