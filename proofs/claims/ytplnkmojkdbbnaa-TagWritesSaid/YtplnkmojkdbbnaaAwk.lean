/-
  Contract: awake.
-/
import Derived.Test.YtplnkmojkdbbnaaRea
import Derived.Test.YtplnkmojkdbbnaaAlk
namespace Go.Proofs.Ytplnkmojkdbbnaa
open Go.RowKit Go.Shelf Go.Lib Go.Maps Go.Sort

def exB : List Nat := [60, 66, 32, 67, 108, 97, 115, 115, 61, 120, 32, 97, 61, 34, 49, 62, 50, 34, 47, 62]
def exT : TG := ⟨0, 20, [98], [([99, 108, 97, 115, 115], [120]), ([97], [49, 62, 50])], true, true⟩
theorem ex_read : rdAt exB 0 = some exT := rfl
def exC : Array Value := #[.string ⟨#[99, 108, 97, 115, 115]⟩, .string ⟨#[120]⟩, .string ⟨#[97]⟩, .string ⟨#[49, 62, 50]⟩]
theorem ex_as {W : World} {g : Nat} {fr : Nat × Nat} (h : W.heap[g]? = some (.cells exC 39 fr)) : AS W W.heap.size exT.attrs (some ⟨g, 0, none⟩) 2 := by
  refine ⟨Nat.le_refl _, by unfold maxLen; omega, fun i a ha => ⟨g, 0, rfl, (Array.getElem?_eq_some_iff.1 h).1, ?_⟩⟩
  have hc := fun i => Cells'.cell (W := W) (g := g) (t := 39) (cs := exC) ⟨fr, h⟩ i
  have hi : i < 2 := (List.getElem?_eq_some_iff.1 ha).1
  rcases (show i = 0 ∨ i = 1 by omega) with rfl | rfl
  · have : a = ([99, 108, 97, 115, 115], [120]) := by simpa [exT] using ha.symm
    subst this
    exact ⟨(hc 0).trans rfl, (hc 1).trans rfl⟩
  · have : a = ([97], [49, 62, 50]) := by simpa [exT] using ha.symm
    subst this
    exact ⟨(hc 2).trans rfl, (hc 3).trans rfl⟩
set_option maxHeartbeats 8000000 in
set_option maxRecDepth 100000 in
theorem awake_any (w : World) (hm : MX w) : Calls Try.prog 8 #[] w fun e w' => e = .returned (.bool true) ∧ Below w.heap.size w w' := by
  obtain ⟨L, hL⟩ : ∃ c : Array Value, #[.int .u8 60, .int .u8 66, .int .u8 32, .int .u8 67, .int .u8 108, .int .u8 97, .int .u8 115, .int .u8 115, .int .u8 61, .int .u8 120, .int .u8 32, .int .u8 97, .int .u8 61, .int .u8 34, .int .u8 49, .int .u8 62, .int .u8 50, .int .u8 34, .int .u8 47, .int .u8 62] = c := ⟨_, rfl⟩
  have v1 : (convert 22 22 (.slice (some ⟨w.heap.size, 0, none⟩) 20 20)).run Try.prog (w.alloc (.cells #[.int .u8 60, .int .u8 66, .int .u8 32, .int .u8 67, .int .u8 108, .int .u8 97, .int .u8 115, .int .u8 115, .int .u8 61, .int .u8 120, .int .u8 32, .int .u8 97, .int .u8 61, .int .u8 34, .int .u8 49, .int .u8 62, .int .u8 50, .int .u8 34, .int .u8 47, .int .u8 62] 5)) = .ok (.slice (some ⟨w.heap.size, 0, none⟩) 20 20) (w.alloc (.cells #[.int .u8 60, .int .u8 66, .int .u8 32, .int .u8 67, .int .u8 108, .int .u8 97, .int .u8 115, .int .u8 115, .int .u8 61, .int .u8 120, .int .u8 32, .int .u8 97, .int .u8 61, .int .u8 34, .int .u8 49, .int .u8 62, .int .u8 50, .int .u8 34, .int .u8 47, .int .u8 62] 5 (20, 21))) := Lib.run_convert_bytes_const w 22 5 _ 20 20 Try.underlying22 Try.underlying5
  obtain ⟨W1, hW1⟩ : ∃ W, w.alloc (.cells #[.int .u8 60, .int .u8 66, .int .u8 32, .int .u8 67, .int .u8 108, .int .u8 97, .int .u8 115, .int .u8 115, .int .u8 61, .int .u8 120, .int .u8 32, .int .u8 97, .int .u8 61, .int .u8 34, .int .u8 49, .int .u8 62, .int .u8 50, .int .u8 34, .int .u8 47, .int .u8 62] 5 (20, 21)) = W := ⟨_, rfl⟩
  rw [hW1] at v1
  have b1 : Below w.heap.size w W1 := by rw [← hW1]; exact below_new _ _
  have y1 : BY W1 W1.heap.size exB (some ⟨w.heap.size, 0, none⟩) 20 := by
    refine ⟨Nat.le_refl _, by unfold maxLen; omega, (fun e => nomatch e), by decide, fun _ => ⟨_, 0, rfl, by rw [← hW1]; simp, fun i y hy => ?_⟩⟩
    rw [← hW1, Nat.zero_add]
    refine (Cells'.cell ⟨_, heap_alloc_new w _⟩ i).trans ?_
    have hi : i < 20 := (List.getElem?_eq_some_iff.1 hy).1
    have : (#[.int .u8 60, .int .u8 66, .int .u8 32, .int .u8 67, .int .u8 108, .int .u8 97, .int .u8 115, .int .u8 115, .int .u8 61, .int .u8 120, .int .u8 32, .int .u8 97, .int .u8 61, .int .u8 34, .int .u8 49, .int .u8 62, .int .u8 50, .int .u8 34, .int .u8 47, .int .u8 62] : Array Value) = (u8C exB).toArray := rfl
    rw [this]
    simp [u8C, hy]
  have C := read_any exB _ _ 0 W1 (hm.on hm.pos b1) y1 (by decide)
  rw [ex_read] at C
  have C : Calls Try.prog 9 #[.slice (some ⟨w.heap.size, 0, none⟩) 20 20, .int .i64 0] W1 fun e w' => ∃ A c, e = .returned (.tuple #[.agg #[.int .i64 0, .int .i64 20, .string ⟨#[98]⟩, .slice A 2 c, .bool true, .bool true], .bool true]) ∧ AS w' w'.heap.size exT.attrs A c ∧ Below W1.heap.size W1 w' := C.mono fun e w' ⟨v, h1, h2, h3⟩ => by
    obtain ⟨A, c, rfl, ha⟩ := AS.of_own h2
    exact ⟨A, c, h1, ha, h3⟩
  have HH := Lib.hid (And.intro C b1)
  clear C b1 y1 hm hL L
  go_enter Try.func8, Try.ntmps8
  go_wp2_with fail
  refine HH.out.1.mono ?_
  rintro r w2 ⟨A, c, rfl, ha, hb2⟩
  clear v1 hW1
  have b2 := HH.out.2.trans (hb2.mono HH.out.2.size)
  have K : ∀ W, Below w2.heap.size w2 W → ∀ g, W.heap[g]? = some (.cells exC 39 (0, 0)) → Calls Try.prog 11 #[.agg #[.int .i64 0, .int .i64 20, .string ⟨#[98]⟩, .slice A 2 c, .bool true, .bool true], .agg #[.int .i64 0, .int .i64 20, .string ⟨#[98]⟩, .slice (some ⟨g, 0, none⟩) 2 2, .bool true, .bool true]] W fun e w' => e = .returned (.bool true) ∧ Below W.heap.size W w' := fun W hb g hg => alike_same exT A (some ⟨g, 0, none⟩) c 2 W (ha.on hb) (ex_as hg)
  have HK := Lib.hid (And.intro K b2)
  clear K ha hb2 b2
  go_wp2_with fail
  have hg := heap_alloc_new (w2.alloc (.cells #[.int .i64 0, .int .i64 20, .string ⟨#[98]⟩, .slice A 2 c, .bool true, .bool true] 26)) (.cells exC 39 (0, 0))
  rw [World.size_alloc] at hg
  have hbb : Below w2.heap.size w2 ((w2.alloc (.cells #[.int .i64 0, .int .i64 20, .string ⟨#[98]⟩, .slice A 2 c, .bool true, .bool true] 26)).alloc (.cells exC 39 (0, 0))) := (below_new _ _).trans ((below_new _ _).mono (by simp))
  refine (HK.out.1 _ hbb _ hg).mono ?_
  rintro r w3 ⟨rfl, hb3⟩
  have HB := Lib.hid ((HK.out.2.trans (hbb.mono HK.out.2.size)).trans (hb3.mono (HK.out.2.trans (hbb.mono HK.out.2.size)).size))
  clear hg hbb hb3
  go_wp2_with fail
  go_ret
  exact ⟨rfl, HB.out⟩
end Go.Proofs.Ytplnkmojkdbbnaa
