/-
  Contract: the document's Groups.
-/
import Derived.Test.YtmldgfplnacecaaDoorAlk
import Derived.Test.YtmldgfplnacecaaDoorRmn
namespace Go.Proofs.YtmldgfplnacecaaDoor
open Go.RowKit Go.Shelf Go.Lib Go.Maps Go.Sort

/-- What has been found from one mark on. -/
def GrI (L : List Tab) (m j : Nat) (g : Int) : Prop :=
  ((∃ q, j ≤ q ∧ q < m ∧ alikeB L q m = true) ∧ g = (groupsL L).getD m 0) ∨ ((∀ q, j ≤ q → q < m → alikeB L q m = false) ∧ g = nxt (groupsL L) m)
theorem grI_start (L : List Tab) (m : Nat) : GrI L m m (nxt (groupsL L) m) := .inr ⟨fun q h1 h2 => by omega, rfl⟩
theorem grI_hit {L : List Tab} {m j : Nat} (hm : m < 37) (hj : j < m) (ha : alikeB L j m = true) : GrI L m j ((groupsL L).getD j 0) :=
  .inl ⟨⟨j, Nat.le_refl _, hj, ha⟩, (alike_grp (by omega) hm).1 ha⟩
theorem grI_miss {L : List Tab} {m j : Nat} {g : Int} (h : GrI L m (j + 1) g) (ha : alikeB L j m = false) : GrI L m j g := by
  rcases h with ⟨⟨q, h1, h2, h3⟩, h4⟩ | ⟨h1, h2⟩
  · exact .inl ⟨⟨q, by omega, h2, h3⟩, h4⟩
  · refine .inr ⟨fun q k1 k2 => ?_, h2⟩
    rcases Nat.lt_or_ge j q with h | h
    · exact h1 q h k2
    · obtain rfl : q = j := by omega
      exact ha
theorem grI_end {L : List Tab} {m : Nat} {g : Int} (hm : m < 37) (h : GrI L m 0 g) : g = (groupsL L).getD m 0 := by
  rcases h with ⟨_, h⟩ | ⟨h1, h2⟩
  · exact h
  · rw [h2, grp_new hm (fun k hk => h1 k (Nat.zero_le _) hk)]
set_option maxHeartbeats 8000000 in
set_option maxRecDepth 100000 in
theorem rgroups_any (L : List Tab) (A : Option Addr) (cap : Nat) (w : World) (h : DsAt w w.heap.size L A) (hl : L.length ≤ 100) (hcap : L.length ≤ cap) :
    Calls Tryd.prog 34 #[.slice A L.length cap] w fun r w' => Below w.heap.size w w' ∧ ∃ v, r = .returned v ∧ OwnI w' w.heap.size (groupsL L) v := by
  obtain ⟨N, hN⟩ : ∃ N, L.length = N := ⟨_, rfl⟩
  have hok := groups_okT L L.length (Nat.le_refl _)
  rw [List.take_length] at hok
  have hnx := fun m hm => nxt_grp L (m := m) hm
  obtain ⟨G, hG⟩ : ∃ G, groupsL L = G := ⟨_, rfl⟩
  obtain ⟨i0, hi, hz0, hz1, hz2⟩ : ∃ i, Tryd.prog.info? 3 = some i ∧ i.zero = some (.int .i64 0) ∧ i.size = 1 ∧ i.bytes = 8 := ⟨_, rfl, rfl, rfl, rfl⟩
  have HI := Lib.hid (And.intro hi (And.intro hz0 (And.intro hz1 hz2)))
  have KA : ∀ (a b : Nat), a < 37 → b < 37 → ∀ W, Below w.heap.size w W → Calls Tryd.prog 67 #[.slice A L.length cap, .int .i64 (a : Int), .int .i64 (b : Int)] W fun r w' => r = .returned (.bool (alikeB L a b)) ∧ Below W.heap.size W w' := by
    intro a b ha hb W hW
    refine alike_any L A cap a b ha hb W ?_ hl hcap
    intro i t ht
    obtain ⟨b, o, A1, c1, A2, c2, e, h1, h2, h3, h4, h5⟩ := (h.below hW) i t ht
    have := hW.size
    exact ⟨b, o, A1, c1, A2, c2, e, by omega, h2, h3, h4.mono hW.size, h5.mono hW.size⟩
  have h00 : OwnI w w.heap.size (G.take 0) (.slice none 0 0) := ⟨rfl, .inl ⟨rfl, rfl⟩⟩
  rw [hG] at hok hnx ⊢
  rw [hN] at KA ⊢
  have H := Lib.hid (And.intro hok (And.intro hnx (And.intro hG (And.intro KA h00))))
  clear hok hnx hG KA h00 hi hz0 hz1 hz2 h hN hcap hl
  go_enter Tryd.func34, Tryd.ntmps34
  go_wp2_with fail
  go_loopw [3, 4, 5, 6, 7] (fun v n m _ _ wr => ∃ k : Nat, m = .int .i64 (k : Int) ∧ k ≤ 37 ∧ n = .int .i64 (nxt G k) ∧ OwnI wr w.heap.size (G.take k) v ∧ Below w.heap.size w wr) (fun _ _ m _ _ _ => 37 - (RowKit.intOf m).toNat)
  case atStart => exact ⟨0, rfl, by omega, rfl, H.out.2.2.2.2, Below.refl _ _⟩
  case round =>
    obtain ⟨wo, rfl⟩ : ∃ wo : World, wo = wr := ⟨_, rfl⟩
    obtain ⟨k, rfl, hk, rfl, hown, hb⟩ := hrel
    by_cases hlt : k < 37
    · have i1 : (k : Int) < 37 := by omega
      have htl : (G.take k).length = k := by rw [List.length_take, H.out.1.1]; omega
      obtain ⟨A1, c1, rfl, his, _⟩ := hown.is (fun x hx => by have := H.out.1.2 x (List.mem_of_mem_take hx); unfold i64; omega)
      obtain ⟨n0, n1⟩ := H.out.2.1 k (by omega)
      have hst0 : GrI L k k (nxt G k) := by rw [← H.out.2.2.1]; exact grI_start L k
      obtain ⟨y, hy⟩ := list_at (xs := G) (i := k) (by rw [H.out.1.1]; exact hlt)
      obtain ⟨y0, y1⟩ := H.out.1.2 y (List.mem_of_getElem? hy)
      have hnst := nxt_step hy
      obtain ⟨n, hn⟩ : ∃ n, nxt G k = n := ⟨_, rfl⟩
      rw [hn] at n0 n1 hst0 hnst ⊢
      have HK := Lib.hid (And.intro hown (And.intro his (And.intro htl (And.intro hb (And.intro hy (And.intro hnst hst0))))))
      rw [htl]
      clear hown his htl hb hy hnst hst0 hn
      go_wp2_with fail
      go_loopw [6, 7] (fun g x wi => ∃ (j : Nat) (gv xv : Int), g = .int .i64 gv ∧ x = .int .i64 xv ∧ xv = (j : Int) - 1 ∧ j ≤ k ∧ GrI L k j gv ∧ Below wo.heap.size wo wi) (fun _ x _ => (RowKit.intOf x + 1).toNat)
      case atStart => exact ⟨k, n, _, rfl, rfl, rfl, Nat.le_refl _, HK.out.2.2.2.2.2.2, Below.refl _ _⟩
      case round =>
        obtain ⟨j, gv, xv, rfl, rfl, hxv, hj, hgr, hbi⟩ := hrel
        cases j with
        | zero =>
          have i2 : ¬ (0 : Int) ≤ xv := by omega
          clear hxv
          have hg := grI_end hlt hgr
          rw [H.out.2.2.1, getD_get HK.out.2.2.2.2.1] at hg
          subst hg
          have o1 : OwnI (wr.alloc (.cells #[.int .i64 gv] 3)) w.heap.size (G.take k) (.slice A1 (G.take k).length c1) := (HK.out.1.below hbi).below (below_new _ _)
          have c8 : (wr.alloc (.cells #[.int .i64 gv] 3)).cell? ⟨wr.heap.size, 0, none⟩ = some (.int .i64 gv) := by rw [World.cell?_alloc_new]; rfl
          have hb2 := HK.out.2.2.2.1.trans (hbi.mono HK.out.2.2.2.1.size)
          have hsz := hb2.size
          have e1 : G.take (k + 1) = G.take k ++ [gv] := by rw [List.take_add_one, HK.out.2.2.2.2.1]; rfl
          have o2 := o1
          rw [HK.out.2.2.1] at o1
          have HE := Lib.hid (And.intro o1 (And.intro c8 (And.intro hb2 (And.intro e1 o2))))
          have hnn := HK.out.2.2.2.2.2.1
          have HN := Lib.hid hnn
          clear o1 o2 c8 hb2 e1 hbi hgr hnn
          go_wp2_with (first
            | (at_builtin
               refine wpList_append_one rfl (.tmp 27) (.tmp 29) 23 rfl w.heap.size 3 i0 (.int .i64 0) 8 Tryd.underlying23 HI.out.1 HI.out.2.1 HI.out.2.2.1 HI.out.2.2.2 (by decide) rfl _ k (intsC (G.take k)) rfl (by have := HE.out.1; unfold OwnI at this; rw [HK.out.2.2.1] at this; exact this) ⟨wr.heap.size, 0, none⟩ (.int .i64 gv) rfl HE.out.2.1 rfl (by omega) (by simp; omega) _ rfl ?_)
            | fail)
          intro g2 cp w5 ho5 hg5 hat5 hl5
          have hb5 : Below w.heap.size w w5 := (HE.out.2.2.1.alloc hsz _).trans (below_grown' hg5 (by have := HE.out.1; unfold OwnI at this; rw [HK.out.2.2.1] at this; exact this) (by simp; omega))
          have hend : ∃ k' : Nat, Value.int .i64 ((k : Int) + 1) = .int .i64 (k' : Int) ∧ k' ≤ 37 ∧ Value.int .i64 (max n (gv + 1)) = .int .i64 (nxt G k') ∧ OwnI w5 w.heap.size (G.take k') (.slice (some ⟨g2, 0, none⟩) (k + 1) cp) ∧ Below w.heap.size w w5 := by
            refine ⟨k + 1, by simp, by omega, by rw [HN.out], ?_, hb5⟩
            unfold OwnI
            rw [HE.out.2.2.2.1, List.length_append, HK.out.2.2.1, intsC_append]
            exact ho5
          have HEND := Lib.hid hend
          clear hend hb5 ho5 hg5 hat5 hl5
          go_wp2_with fail
          go_roundw
          case rel => exact HEND.out
          case measure => simp [RowKit.intOf]; omega
        | succ j =>
          obtain rfl : xv = (j : Int) := by omega
          have hjk : j < k := by omega
          have i2 : (0 : Int) ≤ (j : Int) := by omega
          have i3 : (j : Int) < (k : Int) := by omega
          have hb2 := HK.out.2.2.2.1.trans (hbi.mono HK.out.2.2.2.1.size)
          have C := H.out.2.2.2.1 j k (by omega) (by omega) wr hb2
          obtain ⟨z, hz⟩ := list_at (xs := G.take k) (i := j) (by rw [HK.out.2.2.1]; exact hjk)
          obtain ⟨b, o, rfl, hbl, hc⟩ := HK.out.2.1.r (by rintro e; rw [e] at hz; simp at hz)
          have d0 := hc j z hz
          have hzG : (groupsL L).getD j 0 = z := by
            rw [H.out.2.2.1]
            rw [List.getElem?_take, if_pos hjk] at hz
            exact getD_get hz
          have hmiss := fun ha => grI_miss (j := j) hgr ha
          have hhit := fun ha => grI_hit (L := L) hlt hjk ha
          rw [hzG] at hhit
          have HC := Lib.hid (And.intro C (And.intro hbi (And.intro hmiss (And.intro hhit (And.intro d0 hbl)))))
          clear C hbi hmiss hhit d0 hgr hz hc hzG hb2 hxv
          go_wp2_with fail
          refine HC.out.1.mono ?_
          rintro r w3 ⟨rfl, hb3⟩
          have hb03 := HC.out.2.1.trans (hb3.mono HC.out.2.1.size)
          cases hq : alikeB L j k with
          | false =>
            have hend : ∃ (j' : Nat) (gv' xv' : Int), Value.int .i64 gv = .int .i64 gv' ∧ Value.int .i64 ((j : Int) - 1) = .int .i64 xv' ∧ xv' = (j' : Int) - 1 ∧ j' ≤ k ∧ GrI L k j' gv' ∧ Below wo.heap.size wo w3 := ⟨j, gv, _, rfl, rfl, rfl, by omega, HC.out.2.2.1 hq, hb03⟩
            have HEND := Lib.hid hend
            clear hend hb3 hb03 hq
            go_wp2_with fail
            go_roundw
            case rel => exact HEND.out
            case measure => simp [RowKit.intOf]; try omega
          | true =>
            have d1 := (hb03.cell (p := ⟨b, o + j, none⟩) HC.out.2.2.2.2.2).trans HC.out.2.2.2.2.1
            have hend : ∃ (j' : Nat) (gv' xv' : Int), Value.int .i64 z = .int .i64 gv' ∧ Value.int .i64 ((j : Int) - 1) = .int .i64 xv' ∧ xv' = (j' : Int) - 1 ∧ j' ≤ k ∧ GrI L k j' gv' ∧ Below wo.heap.size wo w3 := ⟨j, z, _, rfl, rfl, rfl, by omega, HC.out.2.2.2.1 hq, hb03⟩
            have HEND := Lib.hid hend
            clear hend hb3 hb03 hq
            go_wp2_with fail
            go_roundw
            case rel => exact HEND.out
            case measure => simp [RowKit.intOf]; try omega
    · obtain rfl : k = 37 := by omega
      have e1 : G.take 37 = G := by rw [← H.out.1.1, List.take_length]
      rw [e1] at hown
      have HF := Lib.hid (And.intro hb hown)
      clear hb hown e1
      go_wp2_with fail
      go_ret
      exact ⟨HF.out.1, _, rfl, HF.out.2⟩
end Go.Proofs.YtmldgfplnacecaaDoor
