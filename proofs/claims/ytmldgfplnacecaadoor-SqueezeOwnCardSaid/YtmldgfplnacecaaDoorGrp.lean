/-
  Contract: Groups.
-/
import Derived.Test.YtmldgfplnacecaaDoorSpw
import Derived.Test.YtmldgfplnacecaaDoorNar
namespace Go.Proofs.YtmldgfplnacecaaDoor
open Go.RowKit Go.Shelf Go.Lib Go.Maps Go.Sort

abbrev Tab := List (List Int) × List Nat
/-- Tables side by side. -/
def DsAt (w : World) (B : Nat) (L : List Tab) (A : Option Addr) : Prop :=
  ∀ (i : Nat) (t : Tab), L[i]? = some t → ∃ b o A1 c1 A2 c2, A = some ⟨b, o, none⟩ ∧ b < B ∧ w.cell? ⟨b, o + i * 2, none⟩ = some (.slice A1 t.1.length c1) ∧ w.cell? ⟨b, o + i * 2 + 1, none⟩ = some (.slice A2 t.2.length c2) ∧
    RsAt w B t.1 A1 c1 ∧ UsAt w B t.2 A2 c2
theorem DsAt.below {w w' : World} {B : Nat} {L : List Tab} {A : Option Addr} (h : DsAt w B L A) (hb : Below B w w') : DsAt w' B L A := by
  intro i t ht
  obtain ⟨b, o, A1, c1, A2, c2, e, h1, h2, h3, h4, h5⟩ := h i t ht
  exact ⟨b, o, A1, c1, A2, c2, e, h1, (hb.cell (p := ⟨b, o + i * 2, none⟩) h1).trans h2, (hb.cell (p := ⟨b, o + i * 2 + 1, none⟩) h1).trans h3, h4.below hb, h5.below hb⟩
/-- One table more. -/
def grpS (g : List Int) (t : Tab) : List Int := if rightT t.1 t.2 = true then numL (conL g t.1) else g
def groupsL (L : List Tab) : List Int := L.foldl grpS (List.replicate 37 0)
theorem groups_step {L : List Tab} {k : Nat} {t : Tab} (h : L[k]? = some t) : groupsL (L.take (k + 1)) = grpS (groupsL (L.take k)) t := by
  unfold groupsL
  rw [List.take_add_one, h, Option.toList_some, List.foldl_append]
  rfl
theorem grpS_ok {g : List Int} {t : Tab} (h : g.length = 37) (hs : ∀ x ∈ g, 0 ≤ x ∧ x < 37) : (grpS g t).length = 37 ∧ ∀ x ∈ grpS g t, 0 ≤ x ∧ x < 37 := by
  unfold grpS
  split
  · refine ⟨by rw [numL_len, conL_len], fun x hx => ?_⟩
    unfold numL at hx
    obtain ⟨y, hy, rfl⟩ := List.mem_map.1 hx
    have hq : y ∈ seenL (conL g t.1) := by
      have := (mem_seenT (conL g t.1) (conL g t.1).length (Nat.le_refl _) y).2 (by rw [List.take_length]; exact hy)
      rw [List.take_length] at this; exact this
    obtain ⟨i, h1, h2, h3⟩ := numT_hit hq
    have h4 := seenT_length (conL g t.1) (conL g t.1).length (Nat.le_refl _)
    rw [List.take_length, conL_len] at h4
    rw [h1]; omega
  · exact ⟨h, hs⟩
theorem groups_okT (L : List Tab) : ∀ k, k ≤ L.length → (groupsL (L.take k)).length = 37 ∧ ∀ x ∈ groupsL (L.take k), 0 ≤ x ∧ x < 37
  | 0, _ => ⟨by simp [groupsL], fun x hx => by simp [groupsL] at hx; omega⟩
  | k + 1, hk => by
    have e : L[k]? = some (L[k]'(by omega)) := List.getElem?_eq_getElem _
    rw [groups_step e]
    obtain ⟨h1, h2⟩ := groups_okT L k (by omega)
    exact grpS_ok h1 h2
set_option maxHeartbeats 8000000 in
set_option maxRecDepth 100000 in
theorem groups_any (L : List Tab) (A : Option Addr) (cap : Nat) (w : World) (h : DsAt w w.heap.size L A) (hl : L.length ≤ 100) (hcap : L.length ≤ cap) (hP : PW w) :
    Calls Tryd.prog 33 #[.slice A L.length cap] w fun r w' => Below w.heap.size w w' ∧ ∃ v, r = .returned v ∧ FrL w w' (groupsL L) v := by
  obtain ⟨N, hN⟩ : ∃ N, L.length = N := ⟨_, rfl⟩
  have mk2 : (Instr.makeSlice 23 (.int .i64 37) (.int .i64 37)).run Tryd.prog w = .ok (.slice (some ⟨w.heap.size, 0, none⟩) 37 37) (w.alloc (.cells (arr 37 fun _ => .int .i64 0) 3)) := make_ints 37 (by omega) w
  obtain ⟨W0, hW0⟩ : ∃ W, w.alloc (.cells (arr 37 fun _ => .int .i64 0) 3) = W := ⟨_, rfl⟩
  have b0 : Below w.heap.size w W0 := by rw [← hW0]; exact below_new _ _
  have x0 : FrL w W0 (groupsL (L.take 0)) (.slice (some ⟨w.heap.size, 0, none⟩) 37 37) := by
    refine ⟨w.heap.size, by simp [groupsL], Nat.le_refl _, ?_⟩
    rw [← hW0]
    have := cells_new w (arr 37 fun _ => .int .i64 0) 3
    have e : arr 37 (fun _ => .int .i64 0) = (intsC (groupsL (L.take 0))).toArray := by
      rw [arr_zero]; simp [groupsL]
    rw [e] at this ⊢; exact this
  have hok := groups_okT L
  have H := Lib.hid (And.intro h (And.intro hN (And.intro hP (And.intro b0 (And.intro x0 hok)))))
  have HW := Lib.hid hW0
  rw [hN] at hl hcap ⊢
  clear h hN hP b0 x0 hok hW0
  go_enter Tryd.func33, Tryd.ntmps33
  go_wp2_with fail
  rw [HW.out]
  go_loopw [3, 9] (fun v i wr => ∃ k : Nat, i = .int .i64 (k : Int) ∧ k ≤ N ∧ Below w.heap.size w wr ∧ FrL w wr (groupsL (L.take k)) v) (fun _ i _ => N - (RowKit.intOf i).toNat)
  case atStart => exact ⟨0, rfl, by omega, H.out.2.2.2.1, H.out.2.2.2.2.1⟩
  case round =>
    obtain ⟨k, rfl, hk, hb, hf⟩ := hrel
    by_cases hlt : k < N
    · have i1 : (k : Int) < (N : Int) := by omega
      obtain ⟨t, ht⟩ : ∃ t, L[k]? = some t := ⟨L[k]'(by rw [H.out.2.1]; exact hlt), List.getElem?_eq_getElem _⟩
      obtain ⟨b, o, A1, c1, A2, c2, rfl, hbl, h2, h3, h4, h5⟩ := H.out.1 k t ht
      have d0 := (hb.cell (p := ⟨b, o + k * 2, none⟩) hbl).trans h2
      have d1 := (hb.cell (p := ⟨b, o + k * 2 + 1, none⟩) hbl).trans h3
      obtain ⟨R, T⟩ := t
      simp only at h4 h5 d0 d1
      obtain ⟨g0, g1⟩ := H.out.2.2.2.2.2 k (by rw [H.out.2.1]; omega)
      have hst := groups_step ht
      obtain ⟨G, hG⟩ : ∃ G, groupsL (L.take k) = G := ⟨_, rfl⟩
      rw [hG] at g0 g1 hst hf
      obtain ⟨n, hn⟩ : ∃ n, R.length = n := ⟨_, rfl⟩
      obtain ⟨n2, hn2⟩ : ∃ n, T.length = n := ⟨_, rfl⟩
      obtain ⟨W1, hW1⟩ : ∃ W, wr.alloc (.cells #[.slice A1 n c1, .slice A2 n2 c2] 54) = W := ⟨_, rfl⟩
      have bW : Below wr.heap.size wr W1 := by rw [← hW1]; exact below_new _ _
      have cW : Cells W1 wr.heap.size 54 #[.slice A1 n c1, .slice A2 n2 c2] := by rw [← hW1]; exact cells_new _ _ _
      have bW2 : Below w.heap.size w W1 := hb.trans (bW.mono hb.size)
      have hT : TbV W1 R T (.agg #[.slice A1 n c1, .slice A2 n2 c2]) := ⟨A1, c1, A2, c2, by rw [hn, hn2], (h4.below bW2).mono bW2.size, (h5.below bW2).mono bW2.size⟩
      have D := rightD_any hT
      have hf1 := hf.on bW
      have HK := Lib.hid (And.intro hT (And.intro hf1 (And.intro g0 (And.intro g1 (And.intro hst (And.intro bW2 cW))))))
      have HD := Lib.hid D
      have HW1 := Lib.hid hW1
      rw [hn] at d0
      rw [hn2] at d1
      clear hT hf1 hf g0 g1 hst bW2 cW bW D hW1 ht h2 h3 h4 h5 hb hn hn2 hG
      go_wp2_with fail
      rw [HW1.out]
      refine HD.out.mono ?_
      rintro r w2 ⟨rfl, hb2⟩
      have hT2 := HK.out.1.on hb2
      have hf2 := HK.out.2.1.on hb2
      have hbb := HK.out.2.2.2.2.2.1.trans (hb2.mono HK.out.2.2.2.2.2.1.size)
      have hc2 := HK.out.2.2.2.2.2.2.on hb2
      have e0 := hc2.cell 0
      have e1 := hc2.cell 1
      simp at e0 e1
      cases hq : rightT R T with
      | false =>
        have hend : ∃ k' : Nat, Value.int .i64 ((k : Int) + 1) = .int .i64 (k' : Int) ∧ k' ≤ N ∧ Below w.heap.size w w2 ∧ FrL w w2 (groupsL (L.take k')) _ := ⟨k + 1, by simp, by omega, hbb, by rw [HK.out.2.2.2.2.1]; unfold grpS; rw [if_neg (by rw [hq]; decide)]; exact hf2⟩
        have HEND := Lib.hid hend
        clear hend hf2 hT2 hbb hc2 hb2 hq
        go_wp2_with fail
        go_roundw
        case rel => exact HEND.out
        case measure => simp [RowKit.intOf]; omega
      | true =>
        obtain ⟨Ag, rfl, hig⟩ := hf2.is (by rw [HK.out.2.2.1]; omega) (fun x hx => by have := HK.out.2.2.2.1 x hx; unfold i64; omega)
        have S := split_any G HK.out.2.2.1 Ag G.length hig hT2 hq (H.out.2.2.1.below hbb H.out.2.2.1.lt)
        have hg := HK.out.2.2.1
        rw [hg] at S ⊢
        have hst2 : groupsL (L.take (k + 1)) = numL (conL G R) := by rw [HK.out.2.2.2.2.1]; unfold grpS; rw [if_pos hq]
        have HS := Lib.hid (And.intro S (And.intro hbb hst2))
        clear S hbb hc2 hT2 hf2 hb2 hig hg hst2 hq
        go_wp2_with fail
        refine HS.out.1.mono ?_
        rintro r w3 ⟨hb3, u, rfl, hf3⟩
        have hend : ∃ k' : Nat, Value.int .i64 ((k : Int) + 1) = .int .i64 (k' : Int) ∧ k' ≤ N ∧ Below w.heap.size w w3 ∧ FrL w w3 (groupsL (L.take k')) u := ⟨k + 1, by simp, by omega, HS.out.2.1.trans (hb3.mono HS.out.2.1.size), by rw [HS.out.2.2]; exact hf3.from HS.out.2.1.size⟩
        have HEND := Lib.hid hend
        clear hend hb3 hf3
        go_wp2_with fail
        go_roundw
        case rel => exact HEND.out
        case measure => simp [RowKit.intOf]; omega
    · obtain rfl : k = N := by omega
      have i1 : ¬ (k : Int) < (k : Int) := by omega
      have e1 : L.take k = L := by rw [← H.out.2.1, List.take_length]
      rw [e1] at hf
      have HF := Lib.hid (And.intro hb hf)
      clear hb hf e1
      go_wp2_with fail
      go_ret
      exact ⟨HF.out.1, _, rfl, HF.out.2⟩
end Go.Proofs.YtmldgfplnacecaaDoor
