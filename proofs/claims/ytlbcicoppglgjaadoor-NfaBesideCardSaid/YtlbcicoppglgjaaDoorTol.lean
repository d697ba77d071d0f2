/-
  Contracts: virgulelaw08.To, Over, Great, Right.
-/
import Derived.Test.YtlbcicoppglgjaaDoorTod
import Derived.Test.YtlbcicoppglgjaaDoorRrr
namespace Go.Proofs.YtlbcicoppglgjaaDoor
open Go.RowKit Go.Shelf Go.Lib

def ToLOk (w : World) (ks : List E) (r : Ending) (w' : World) : Prop := ∃ A cap, r = .returned (.slice A ks.length cap) ∧ KsP w' (fun b => w.heap.size ≤ b ∧ b < w'.heap.size) ks A cap ∧ Below w.heap.size w w'
theorem len_le_szL : ∀ l : List E, l.length ≤ szL l := by
  intro l
  induction l with
  | nil => simp
  | cons a r ih2 => have := szE_pos a; simp only [szL, szE.szL, List.length_cons] at *; omega
set_option maxHeartbeats 8000000 in
set_option maxRecDepth 100000 in
theorem toL_any (ks : List E) (hz : szL ks ≤ 100000) (A : Option Addr) (cap : Nat) (w : World) (h : KsAt w w.heap.size ks A cap) : Calls Tryd.prog 11 #[.slice A ks.length cap] w (ToLOk w ks) := by
  obtain ⟨i0, hi, hz0, hz1, hz2⟩ := info_parts info52
  have hln : ks.length ≤ 100000 := Nat.le_trans (len_le_szL ks) hz
  obtain ⟨n, hn⟩ : ∃ n, ks.length = n := ⟨_, rfl⟩
  have HN := Lib.hid hn
  have HA := Lib.hid (And.intro h hz)
  rw [hn] at hln ⊢
  clear hn h hz
  go_enter Tryd.func11, Tryd.ntmps11
  go_wp2_with fail
  go_loopw [3, 4] (fun u v wr => ∃ (j : Nat) (cs : List Value), v = .int .i64 (j : Int) ∧ j ≤ n ∧ Below w.heap.size w wr ∧ wr.ownsRow w.heap.size 52 3 u j cs ∧ Kids wr w.heap.size u ks j cs) (fun _ v _ => n - (RowKit.intOf v).toNat)
  case atStart => exact ⟨0, [], rfl, by omega, Below.refl _ _, World.ownsRow_nil _ _ _ _, rfl, fun i f hi => by omega⟩
  case round =>
    obtain ⟨j, cs, rfl, hj, hb, hown, hkids⟩ := hrel
    by_cases hlt : j < n
    · have i1 : (j : Int) < (n : Int) := by omega
      obtain ⟨f, hf⟩ : ∃ f, ks[j]? = some f := ⟨ks[j]'(by rw [HN.out]; exact hlt), List.getElem?_eq_getElem _⟩
      obtain ⟨b, o, rfl, hbl, hr⟩ := HA.out.1.r (by rintro rfl; simp at hf)
      obtain ⟨A', cap', c0, c1, c2, hNd⟩ := row_get' hr hf
      have d0 := (hb.cell (p := ⟨b, o + j * 3, none⟩) hbl).trans c0
      have d1 := (hb.cell (p := ⟨b, o + j * 3 + 1, none⟩) hbl).trans c1
      have d2 := (hb.cell (p := ⟨b, o + j * 3 + 2, none⟩) hbl).trans c2
      have hsf := szL_mem (List.mem_of_getElem? hf)
      have hC := Lib.hid (to_any _ f (Nat.le_refl _) (by have := HA.out.2; omega) (.agg #[.int .i64 f.k, .int .i64 f.c, .slice A' f.ks.length cap']) wr ((hNd.below hb).mono hb.size))
      have HK := Lib.hid (And.intro hb (And.intro hown (And.intro hkids hf)))
      clear hb hown hkids hf hr c0 c1 c2 hNd hsf
      go_wp2_with fail
      refine hC.out.mono ?_
      rintro r W5 ⟨v5, rfl, hN5, hb5⟩
      obtain ⟨_, _, A5, c5, rfl, _⟩ := NdP_iff.1 hN5
      have ho5 := ownsRow_below HK.out.2.1 hb5
      have hbw5 := HK.out.1.trans (hb5.mono HK.out.1.size)
      have NB := World.news_of_block (heap_alloc_new W5 (.cells #[.int .i64 f.k, .int .i64 f.c, .slice A5 f.ks.length c5] 52))
      have H5 := Lib.hid (And.intro hN5 (And.intro hb5 (And.intro ho5 (And.intro hbw5 NB))))
      clear hN5 hb5 ho5 hbw5 NB d0 d1 d2
      go_wp2_with (first
        | (at_builtin; refine wpList_append_lies _ rfl _ _ 30 rfl w.heap.size 52 i0 _ 3 40 Tryd.underlying30 hi hz0 hz1 hz2 rfl (by omega) _ j cs rfl (H5.out.2.2.1.alloc _) ⟨W5.heap.size, 0, none⟩ 1 1 [.int .i64 f.k, .int .i64 f.c, .slice A5 f.ks.length c5] rfl rfl H5.out.2.2.2.2 (by simp [Value.oneCell']) (by omega) (by unfold maxLen; omega) (by omega) (by have := H5.out.2.2.2.1.size; simp; omega) (W5.heap.size + 1) (by simp) ?_)
        | fail)
      intro g cap1 W7 hown7 hgrow7 hat7 hlt7
      have hgr57 : W5.grownBy W7 (Value.ownBlock _) := ⟨hgrow7.os, hgrow7.tape, hgrow7.output, by have := hgrow7.size; simp at this; omega, fun k hk hn => (hgrow7.block k (by simp; omega) hn).trans (Below.heap_alloc _ _ _ hk)⟩
      have hk7 := Kids.step (g := g) (v7 := .slice (some ⟨g, 0, none⟩) (j + 1) cap1) HK.out.2.2.1 HK.out.2.2.2 (fun b hb => (HK.out.2.1.lt b hb).2) H5.out.1 H5.out.2.1 HK.out.1.size hgr57 rfl (by rcases hat7 with h | h; exact .inl h; exact .inr (by omega))
      have hb7 : Below w.heap.size w W7 := H5.out.2.2.2.1.grown hgr57 H5.out.2.2.2.1.size (fun k hk => (H5.out.2.2.1.lt k hk).1)
      have hend : ∃ (j' : Nat) (cs' : List Value), Value.int .i64 ((j : Int) + 1) = .int .i64 (j' : Int) ∧ j' ≤ n ∧ Below w.heap.size w W7 ∧ W7.ownsRow w.heap.size 52 3 (.slice (some ⟨g, 0, none⟩) (j + 1) cap1) j' cs' ∧ Kids W7 w.heap.size (.slice (some ⟨g, 0, none⟩) (j + 1) cap1) ks j' cs' := ⟨j + 1, _, by simp, by omega, hb7, hown7, hk7⟩
      have HEND := Lib.hid hend
      clear hown7 hgrow7 hat7 hlt7 hgr57 hk7 hb7 hend
      go_wp2_with fail
      go_roundw
      case rel => exact HEND.out
      case measure => simp [RowKit.intOf]; omega
    · obtain rfl : j = n := by omega
      have i1 : ¬ (j : Int) < (j : Int) := by omega
      have hown' : wr.ownsRow w.heap.size 52 3 u3 ks.length cs := by rw [HN.out]; exact hown
      have hkids' : Kids wr w.heap.size u3 ks ks.length cs := by rw [HN.out]; exact hkids
      obtain ⟨A6, c6, rfl, hkp⟩ := hkids'.full hown'
      have HK := Lib.hid (And.intro hb hkp)
      clear hb hown hkids hown' hkids' hkp
      go_wp2_with fail
      go_ret
      exact ⟨A6, c6, rfl, HK.out.2, HK.out.1⟩
end Go.Proofs.YtlbcicoppglgjaaDoor
