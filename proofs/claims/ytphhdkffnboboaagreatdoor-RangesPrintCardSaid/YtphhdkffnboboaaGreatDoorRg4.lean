/-
  Contracts: virgulelaw02.To; own rows of ranges.
-/
import Derived.Deep.RegionLaw
import Derived.Deep.AppendLies
import Derived.BigRegion
import Derived.OwnWalk
import Derived.Test.YtphhdkffnboboaaGreatDoorRg3
namespace Go.Proofs.YtphhdkffnboboaaGreatDoor
open Go.RowKit Go.Shelf
open Go.Lib

def cell2 (x : Rng) : List Value := [.int .i32 x.1, .int .i32 x.2]
def cells2 (xs : List Rng) : List Value := xs.flatMap cell2
theorem cells2_snoc (xs : List Rng) (x : Rng) : cells2 (xs ++ [x]) = cells2 xs ++ cell2 x := by simp [cells2]
theorem cells2_append (xs ys : List Rng) : cells2 (xs ++ ys) = cells2 xs ++ cells2 ys := by simp [cells2]
theorem cells2_length (xs : List Rng) : (cells2 xs).length = xs.length * 2 := by
  induction xs with
  | nil => rfl
  | cons x xs ih => simp [cells2, cell2] at *; omega
theorem cells2_get (xs : List Rng) (j : Nat) (x : Rng) (h : xs[j]? = some x) : (cells2 xs)[j * 2]? = some (.int .i32 x.1) ∧ (cells2 xs)[j * 2 + 1]? = some (.int .i32 x.2) := by
  induction xs generalizing j with
  | nil => simp at h
  | cons y ys ih =>
    have e : cells2 (y :: ys) = .int .i32 y.1 :: .int .i32 y.2 :: cells2 ys := by simp [cells2, cell2]
    rw [e]
    cases j with
    | zero => simp at h; subst h; simp
    | succ j =>
      have := ih j (by simpa using h)
      have e1 : (j + 1) * 2 = j * 2 + 1 + 1 := by omega
      rw [e1]
      simpa using this
theorem cells2_one (xs : List Rng) : ∀ u ∈ cells2 xs, u.oneCell' = true := by
  intro u hu
  simp [cells2, cell2] at hu
  obtain ⟨a, b, _, h | h⟩ := hu <;> subst h <;> rfl

/-- A row of ranges of the call's own. -/
def HoldsR (B T : Nat) (xs : List Rng) (w : World) (e : Ending) (w' : World) : Prop :=
  ∃ v, e = .returned v ∧ w'.ownsRow B T 2 v xs.length (cells2 xs) ∧ Below B w w'

theorem ownsRow_RS {w : World} {B T : Nat} {v : Value} {xs : List Rng} (h : w.ownsRow B T 2 v xs.length (cells2 xs)) (hI : ∀ x ∈ xs, I32 x) : ∃ A cap, v = .slice A xs.length cap ∧ RS w w.heap.size A cap xs := by
  rcases h.2 with ⟨rfl, h0⟩ | ⟨g, cap, cur, rfl, hb, hh, h1, h2, h3, h4⟩
  · exact ⟨none, 0, by rw [h0], by omega, by unfold maxLen; omega, hI, fun hn => absurd (List.length_eq_zero_iff.1 h0) hn⟩
  · refine ⟨_, cap, rfl, h1, h2, hI, fun _ => ⟨g, 0, rfl, (Array.getElem?_eq_some_iff.1 hh).1, fun i x hx => ?_⟩⟩
    have hlt := (List.getElem?_eq_some_iff.1 hx).1
    obtain ⟨c1, c2⟩ := cells2_get xs i x hx
    rw [Nat.zero_add]
    refine ⟨?_, ?_⟩
    · rw [h.cellAt (i * 2) (by omega), c1]
    · rw [h.cellAt (i * 2 + 1) (by omega), c2]

theorem Tryz.info39 : (Tryz.prog.info? 39).map (fun i => (i.zero, i.size, i.bytes)) = some (some (.agg #[.int .i32 0, .int .i32 0]), 2, 8) := by kernel_rfl
theorem Tryz.info45 : (Tryz.prog.info? 45).map (fun i => (i.zero, i.size, i.bytes)) = some (some (.agg #[.int .i32 0, .int .i32 0]), 2, 8) := by kernel_rfl

theorem news2 (w : World) (T : TypeId) (x y : Value) (_hx : x.oneCell' = true) (_hy : y.oneCell' = true) : ∀ j u, ([x, y] : List Value)[j]? = some u → (w.alloc (.cells #[x, y] T)).cell? ((⟨w.heap.size, 0, none⟩ : Addr).add j) = some u := by
  intro j u hu
  rw [add0]
  have := Cells.cell (show Cells _ _ T _ from World.alloc_heap_new w (.cells #[x, y] T)) j
  rw [this]
  simpa using hu

set_option maxHeartbeats 4000000 in
set_option maxRecDepth 100000 in
theorem to_any (A : Option Addr) (cap : Nat) (xs : List Rng) (w : World) (h : RS w w.heap.size A cap xs) (hl : xs.length ≤ 1000000) :
    Calls Tryz.prog 7 #[.slice A xs.length cap] w (HoldsR w.heap.size 39 xs w) := by
  obtain ⟨i0, hi, hz0, hz1, hz2⟩ := info_parts Tryz.info39
  have H := Lib.hid h
  have hm : xs.length ≤ maxLen := by have := h.1; have := h.2.1; omega
  obtain ⟨n, hn⟩ : ∃ n, xs.length = n := ⟨_, rfl⟩
  have HN := Lib.hid hn
  unfold maxLen at hm
  rw [hn] at hm hl ⊢
  clear h hn
  go_enter Tryz.func7, Tryz.ntmps7
  go_wp2
  go_loopw [3, 4] (fun v s wr => ∃ k : Nat, s = .int .i64 k ∧ k ≤ n ∧ wr.ownsRow w.heap.size 39 2 v k (cells2 (xs.take k)) ∧ Below w.heap.size w wr) (fun _ s _ => n - (RowKit.intOf s).toNat)
  case atStart => exact ⟨0, rfl, Nat.zero_le _, World.ownsRow_nil _ _ _ _, Below.refl _ _⟩
  case round =>
    obtain ⟨k, rfl, hk, hown, hb⟩ := hrel
    by_cases hlt : k < n
    · obtain ⟨x, hx⟩ : ∃ x, xs[k]? = some x := ⟨xs[k]'(by have := HN.out; omega), List.getElem?_eq_getElem _⟩
      obtain ⟨b, o, rfl, hbl, hRg⟩ := H.out.2.2.2 (by intro e; rw [e] at hx; simp at hx)
      obtain ⟨q1, q2⟩ := (hRg.below hbl hb) k x hx
      have hT : Hid (xs.take (k + 1) = xs.take k ++ [x]) := Lib.hid (by rw [List.take_add_one, hx]; rfl)
      clear hRg hx
      obtain ⟨lo, hi'⟩ := x
      have i1 : (k : Int) < (n : Int) := by omega
      have own1 : wr.drew.ownsRow w.heap.size 39 2 u3 k (cells2 (xs.take k)) := hown
      have hb1 := hb.drew
      have hlt0 := own_block_lt own1
      have hs1 : w.heap.size ≤ wr.drew.heap.size := hb1.size
      have own2 := own1.alloc (.cells #[.int .i32 lo, .int .i32 hi'] 39)
      have hnews := news2 wr.drew 39 (.int .i32 lo) (.int .i32 hi') rfl rfl
      have h1c : ∀ u ∈ ([.int .i32 lo, .int .i32 hi'] : List Value), u.oneCell' = true := by intro u hu; simp at hu; rcases hu with rfl | rfl <;> rfl
      have hml : k + 1 ≤ maxLen := by unfold maxLen; omega
      have hsz : w.heap.size ≤ (wr.drew.alloc (.cells #[.int .i32 lo, .int .i32 hi'] 39)).heap.size := by rw [World.size_alloc]; omega
      have hO := Lib.hid own2
      have hN2 := Lib.hid hnews
      have hQ := Lib.hid (And.intro h1c (And.intro hml (And.intro hsz (And.intro hb1 hlt0))))
      clear hown own1 hb own2 hnews h1c hml hsz hb1 hlt0
      go_wp2_with fail
      go_region_law (refine step_append_lies _ rfl (.tmp 11) (.tmp 23) 27 rfl w.heap.size 39 i0 (.agg #[.int .i32 0, .int .i32 0]) 2 8 Tryz.underlying27 hi hz0 hz1 hz2 rfl (by decide) u3 k (cells2 (xs.take k)) (by simp [Act.eval]) hO.out ⟨wr.heap.size, 0, none⟩ 1 1 [.int .i32 lo, .int .i32 hi'] (by simp [Act.eval]) rfl hN2.out hQ.out.1 (by omega) hQ.out.2.1 (by omega) hQ.out.2.2.1 _ rfl ?_; intro g cap2 w2 own3 hgrow _ _)
      all_goals
        have hbz : Below w.heap.size w w2 := (hQ.out.2.2.2.1.alloc hs1 _).grown hgrow hQ.out.2.2.1 (fun k e => (hQ.out.2.2.2.2 k e).1)
        have e3 : cells2 (xs.take k) ++ [.int .i32 lo, .int .i32 hi'] = cells2 (xs.take (k + 1)) := by rw [hT.out, cells2_snoc]; rfl
        rw [e3] at own3
        clear e3 hgrow
        go_wp2
        go_roundw
        case rel => exact ⟨k + 1, by go_num, by omega, own3, hbz⟩
        case measure => simp [RowKit.intOf]; omega
    · have hkn : k = n := by omega
      have e : xs.take k = xs := by rw [hkn, ← HN.out, List.take_length]
      rw [e] at hown
      subst hkn
      clear e
      go_wp2
      go_ret
      exact ⟨u3, rfl, by rw [HN.out]; exact hown, hb⟩
end Go.Proofs.YtphhdkffnboboaaGreatDoor
