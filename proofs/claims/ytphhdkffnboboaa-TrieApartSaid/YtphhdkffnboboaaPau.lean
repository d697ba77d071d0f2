/-
  Arguments that are lists of entries and of numbers; the law TrieGets with what the row gives.
  The law TrieApart with what the row gives.
-/
import Derived.WalkKit
import Derived.ProofKit
import Derived.OpenShut
import Derived.JoinedTies
import Derived.Deep.SlicePairs
import Derived.Test.YtphhdkffnboboaaPal
import Derived.Test.YtphhdkffnboboaaPat
namespace Go.Proofs.Ytphhdkffnboboaa
open Go.ChangeShapes Go.WideShapes Go.ChangeAt Go.RowKit Go.Shelf
open Go.Lib

set_option maxRecDepth 100000 in
theorem rs_of_trod {H : Type} {enc : TypeId × Value → H} {W : World} {n : Nat} {v : Value} {x : DataW H × List MemPlace} (hf : DataW.trod enc Try.prog W 0 (fun _ => true) true n 36 [v] = some x) :
    ∃ A c xs, v = .slice A (List.length xs) c ∧ RS W W.heap.size A c xs := by
  rcases Go.Deep.open_slice_pairs Try.underlying36 Try.underlying40 (by kernel_rfl) rfl rfl (by kernel_rfl) (by kernel_rfl) hf with ⟨hcs, _⟩ | ⟨x, len, c, m, n, V0, V1, D0, D1, P0, P1, hcs, _, hl, hm, hmm, _, hcell⟩
  · simp at hcs
    exact ⟨none, 0, [], hcs, by refine ⟨Nat.le_refl _, Nat.zero_le _, by simp, fun h => absurd rfl h⟩⟩
  · simp at hcs
    have hlm : len ≤ m := by rw [hmm]; simpa using hl
    have hint : ∀ i, i < len → ∃ q : Int × Int, V0 i = .int .i32 q.1 ∧ V1 i = .int .i32 q.2 ∧ I32 q := fun i hi => by
      obtain ⟨_, _, h0, h1⟩ := hcell i (by omega)
      obtain ⟨z0, e0, _, w0⟩ := DataW.trod_int Try.underlying21 h0
      obtain ⟨z1, e1, _, w1⟩ := DataW.trod_int Try.underlying21 h1
      have b0 : -2147483648 ≤ z0 ∧ z0 ≤ 2147483647 := by simpa [Lit.wf, IntKind.min, IntKind.max, IntKind.signed, IntKind.bits] using w0
      have b1 : -2147483648 ≤ z1 ∧ z1 ≤ 2147483647 := by simpa [Lit.wf, IntKind.min, IntKind.max, IntKind.signed, IntKind.bits] using w1
      exact ⟨(z0, z1), by simpa using e0, by simpa using e1, by unfold I32; exact ⟨b0.1, b0.2, b1.1, b1.2⟩⟩
    obtain ⟨q, hq⟩ := Go.Deep.choose_lt hint
    have hlen : ((List.range len).map q).length = len := by simp
    refine ⟨some x, c, (List.range len).map q, by rw [hlen]; exact hcs, ⟨by rw [hlen]; exact hl, hm, fun y hy => ?_, fun hn => ?_⟩⟩
    · obtain ⟨i, hi, rfl⟩ := List.mem_map.1 hy
      exact (hq i (List.mem_range.1 hi)).2.2
    · have h0 : 0 < len := by
        rcases Nat.eq_zero_or_pos len with e | e
        · subst e; exact absurd rfl hn
        · exact e
      have hc := (hcell 0 (by omega)).1
      obtain ⟨b, off, spot⟩ := x
      have hspot : spot = none := by simpa [Addr.add] using World.cell?_spot hc
      subst hspot
      have hc0 : W.cell? ⟨b, off, none⟩ = some (V0 0) := by simpa [Addr.add] using hc
      refine ⟨b, off, rfl, cell_lt hc0, fun i y hy => ?_⟩
      have hi : i < len := by have := (List.getElem?_eq_some_iff.1 hy).1; omega
      simp [hi] at hy
      subst hy
      obtain ⟨c0, c1, _, _⟩ := hcell i (by omega)
      obtain ⟨e0, e1, _⟩ := hq i hi
      rw [Addr.add_lit] at c0 c1
      rw [← e0, ← e1]
      exact ⟨c0, by rw [Nat.add_assoc]; exact c1⟩

set_option maxRecDepth 100000 in
theorem entries_of_arg {H : Type} {enc : TypeId × Value → H} {W : World} {b0 : Nat} {v : Value} {d : DataW H} {p : List MemPlace} (hv : Value.okWide Try.prog W .any b0 22 v) (h : DataW.Trod enc Try.prog W 0 (fun _ => true) true 22 v d p) :
    ∃ A c es, v = .slice A (List.length es) c ∧ ES W W.heap.size A c es := by
  obtain ⟨a, len, cap, rfl⟩ := okWide_slice Try.underlying22 hv
  obtain ⟨fuel, hf⟩ := h
  rcases Go.Deep.open_slice_pairs Try.underlying22 Try.underlying38 (by kernel_rfl) rfl rfl (by kernel_rfl) (by kernel_rfl) hf with ⟨hcs, _⟩ | ⟨x, l, c, m, n, V0, V1, D0, D1, P0, P1, hcs, _, hl, hm, hmm, _, hcell⟩
  · simp [Value.cells] at hcs
    obtain ⟨rfl, rfl, rfl⟩ := hcs
    exact ⟨none, 0, [], rfl, by refine ⟨Nat.le_refl _, Nat.zero_le _, by simp, fun h => absurd rfl h⟩⟩
  · simp [Value.cells] at hcs
    obtain ⟨rfl, rfl, rfl⟩ := hcs
    have hlm : len ≤ m := by rw [hmm]; simpa using hl
    have hint : ∀ i, i < len → ∃ q : En, V0 i = .slice q.A q.xs.length q.cap ∧ V1 i = .int .i64 q.c ∧ RS W W.heap.size q.A q.cap q.xs := fun i hi => by
      obtain ⟨_, _, h0, h1⟩ := hcell i (by omega)
      obtain ⟨A, c, xs, e0, hR⟩ := rs_of_trod h0
      obtain ⟨z1, e1, _, w1⟩ := DataW.trod_int Try.underlying3 h1
      exact ⟨⟨A, c, xs, z1⟩, e0, by simpa using e1, hR⟩
    obtain ⟨q, hq⟩ := Go.Deep.choose_lt hint
    have hlen : ((List.range len).map q).length = len := by simp
    refine ⟨some x, cap, (List.range len).map q, by rw [hlen], ⟨by rw [hlen]; exact hl, hm, fun y hy => ?_, fun hn => ?_⟩⟩
    · obtain ⟨i, hi, rfl⟩ := List.mem_map.1 hy
      exact (hq i (List.mem_range.1 hi)).2.2
    · have h0 : 0 < len := by
        rcases Nat.eq_zero_or_pos len with e | e
        · subst e; exact absurd rfl hn
        · exact e
      have hc := (hcell 0 (by omega)).1
      obtain ⟨b, off, spot⟩ := x
      have hspot : spot = none := by simpa [Addr.add] using World.cell?_spot hc
      subst hspot
      have hc0 : W.cell? ⟨b, off, none⟩ = some (V0 0) := by simpa [Addr.add] using hc
      refine ⟨b, off, rfl, cell_lt hc0, fun i y hy => ?_⟩
      have hi : i < len := by have := (List.getElem?_eq_some_iff.1 hy).1; omega
      simp [hi] at hy
      subst hy
      obtain ⟨c0, c1, _, _⟩ := hcell i (by omega)
      obtain ⟨e0, e1, _⟩ := hq i hi
      rw [Addr.add_lit] at c0 c1
      rw [← e0, ← e1]
      exact ⟨c0, by rw [Nat.add_assoc]; exact c1⟩

def RnW (W : World) (A : Option Addr) (c : Nat) (rs : List Int) : Prop := RnS W W.heap.size A rs ∧ rs.length ≤ c ∧ c ≤ maxLen
set_option maxRecDepth 100000 in
theorem runes_of_arg {H : Type} {enc : TypeId × Value → H} {W : World} {b0 : Nat} {v : Value} {d : DataW H} {p : List MemPlace} (hv : Value.okWide Try.prog W .any b0 23 v) (h : DataW.Trod enc Try.prog W 0 (fun _ => true) true 23 v d p) :
    ∃ A c rs, v = .slice A (List.length rs) c ∧ RnW W A c rs := by
  obtain ⟨a, len, cap, rfl⟩ := okWide_slice Try.underlying23 hv
  obtain ⟨fuel, hf⟩ := h
  rcases Go.Deep.open_slice1 Try.underlying23 (by kernel_rfl) hf with ⟨hcs, _⟩ | ⟨x, l, c, m, n, V, D, Pl, hcs, _, hl, hm, hmm, _, hcell⟩
  · simp [Value.cells] at hcs
    obtain ⟨rfl, rfl, rfl⟩ := hcs
    exact ⟨none, 0, [], rfl, ⟨by simp, fun h => absurd rfl h⟩, Nat.le_refl _, Nat.zero_le _⟩
  · simp [Value.cells] at hcs
    obtain ⟨rfl, rfl, rfl⟩ := hcs
    have hlm : len ≤ m := by rw [hmm]; simpa using hl
    have hint : ∀ i, i < len → ∃ q : Int, V i = .int .i32 q ∧ -2147483648 ≤ q ∧ q ≤ 2147483647 := fun i hi => by
      obtain ⟨_, h0⟩ := hcell i (by omega)
      obtain ⟨z0, e0, _, w0⟩ := DataW.trod_int Try.underlying21 h0
      have b0 : -2147483648 ≤ z0 ∧ z0 ≤ 2147483647 := by simpa [Lit.wf, IntKind.min, IntKind.max, IntKind.signed, IntKind.bits] using w0
      exact ⟨z0, by simpa using e0, b0⟩
    obtain ⟨q, hq⟩ := Go.Deep.choose_lt hint
    have hlen : ((List.range len).map q).length = len := by simp
    refine ⟨some x, cap, (List.range len).map q, by rw [hlen], ⟨fun y hy => ?_, fun hn => ?_⟩, by rw [hlen]; exact hl, hm⟩
    · obtain ⟨i, hi, rfl⟩ := List.mem_map.1 hy
      exact (hq i (List.mem_range.1 hi)).2
    · have h0 : 0 < len := by
        rcases Nat.eq_zero_or_pos len with e | e
        · subst e; exact absurd rfl hn
        · exact e
      have hc := (hcell 0 (by omega)).1
      obtain ⟨b, off, spot⟩ := x
      have hspot : spot = none := by simpa [Addr.add] using World.cell?_spot hc
      subst hspot
      have hc0 : W.cell? ⟨b, off, none⟩ = some (V 0) := by simpa [Addr.add] using hc
      refine ⟨b, off, rfl, cell_lt hc0, fun i y hy => ?_⟩
      have hi : i < len := by have := (List.getElem?_eq_some_iff.1 hy).1; omega
      simp [hi] at hy
      subst hy
      obtain ⟨c0, _⟩ := hcell i (by omega)
      rw [Addr.add_lit] at c0
      rw [← (hq i hi).1]
      exact c0
theorem tgets_walk (o : Int) (_o0 : -9223372036854775808 ≤ o) (_o1 : o ≤ 9223372036854775807) (A : Option Addr) (cap : Nat) (es : List En) (w : World) (h : ES w w.heap.size A cap es) (AR : Option Addr) (capR : Nat) (rs : List Int) (hr : RnW w AR capR rs) :
    Calls Try.prog 3 #[.int .i64 o, .slice A es.length cap, .slice AR rs.length capR] w fun e w' => e = .returned (.bool true) ∧ Below w.heap.size w w' :=
  tgets_any o A cap es AR capR rs w h hr.1 (by have := hr.2.1; have := hr.2.2; unfold maxLen at this; omega)
end Go.Proofs.Ytphhdkffnboboaa

namespace Go.Proofs.Ytphhdkffnboboaa
open Go.RowKit Go.Shelf
open Go.Lib
theorem tapart_walk (o : Int) (_o0 : -9223372036854775808 ≤ o) (_o1 : o ≤ 9223372036854775807) (A : Option Addr) (cap : Nat) (es : List En) (w : World) (h : ES w w.heap.size A cap es) (AM : Option Addr) (capM : Nat) (ms : List En) (hM : ES w w.heap.size AM capM ms) :
    Calls Try.prog 6 #[.int .i64 o, .slice A es.length cap, .slice AM ms.length capM] w fun e w' => e = .returned (.bool true) ∧ Below w.heap.size w w' :=
  tapart_any o A cap es AM capM ms w h hM
end Go.Proofs.Ytphhdkffnboboaa

