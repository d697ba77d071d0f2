/-
  Contract: element.elements.
-/
import Derived.Test.YtncglgbogplpcaaDoorMp
namespace Go.Proofs.YtncglgbogplpcaaDoor
open Go.RowKit Go.Shelf Go.Lib Go.Maps
attribute [local irreducible] nmL ofN

set_option maxRecDepth 100000 in
set_option maxHeartbeats 8000000 in
theorem elements_any (w : World) (hA : AS w) (h0 : 0 < w.heap.size) : Calls Tryd.prog 9 #[] w fun e w' => e = .returned (.map (some w.heap.size)) ∧ (∃ n, Em w' w.heap.size n (fun x => ofN x 7) ∧ n ≤ 1000) ∧ Below w.heap.size w w' := by
  have CF := fun k (hk : k < 7) W (hb : Below w.heap.size w W) => fields_any k hk W (hA.on h0 hb)
  have HH := Lib.hid CF
  clear CF hA h0
  obtain ⟨b, hb0⟩ : ∃ b, w.heap.size = b := ⟨_, rfl⟩
  have mk1 : ∀ t (W : World), (Instr.makeMap t none).run Tryd.prog W = .ok (.map (some W.heap.size)) (W.alloc (.map #[] 0)) := fun t W => run_makeMap t W
  go_enter Tryd.func9, Tryd.ntmps9
  go_wp2_with fail
  clear mk1
  have E0 := Em.made w
  have B0 := below_new w (.map #[] 0)
  rw [hb0] at E0 B0
  obtain ⟨W0, hW0⟩ : ∃ V, w.alloc (.map #[] 0) = V := ⟨_, rfl⟩
  rw [hW0] at E0 B0 ⊢
  have HW := Lib.hid (And.intro E0 (And.intro B0 hb0))
  clear E0 B0 hW0 hb0
  go_loopw [2] (fun v wr => ∃ k n : Nat, k ≤ 7 ∧ v = .int .i64 ((2 ^ k : Nat) : Int) ∧ Em wr b n (fun x => ofN x k) ∧ n ≤ 100 * k ∧ Below b w wr) (fun v _ => 128 - (RowKit.intOf v).toNat)
  case atStart => exact ⟨0, 0, by omega, rfl, HW.out.1.congr (fun x => by rw [ofN_zero]), by omega, HW.out.2.1⟩
  case round =>
    obtain ⟨k, n, hk, rfl, hE, hn, hb⟩ := hrel
    have hp := pow_cases hk
    have hs := fun x => ofN_succ x k
    have hlt := fun x => ofN_lt x k
    have hor := fun a (h7 : k < 7) (h : a < 2 ^ k) => or_any (a := a) (k := k) h7 h
    have CN := names_any k
    have CF := HH.out k
    have hfl := fields_nm k
    have hnd := nm_nodup k
    obtain ⟨q, hq⟩ : ∃ q, 2 ^ k = q := ⟨_, rfl⟩
    rw [hq] at hp CN hor ⊢
    simp only [hq] at hs hlt
    by_cases lt : k < 7
    case neg =>
      have hk7 : k = 7 := by omega
      have i1 : ¬ (q : Int) < 128 := by omega
      have HE := Lib.hid (And.intro hE hb)
      subst hk7
      clear hp hs hlt hor CN CF hfl hnd hE hb hq
      go_wp2_with fail
      go_ret
      rw [HW.out.2.2]
      exact ⟨rfl, ⟨n, HE.out.1, by omega⟩, HE.out.2⟩
    case pos =>
      have i1 : (q : Int) < 128 := by omega
      obtain ⟨L, hL⟩ : ∃ l, nmL k = l := ⟨_, rfl⟩
      rw [hL] at CF hfl hnd
      simp only [hL] at hs
      obtain ⟨m, hm⟩ : ∃ m, L.length = m := ⟨_, rfl⟩
      have hm100 : m ≤ 100 := by rw [← hm, ← hL]; exact nmL_small k lt
      rw [hm] at CF
      have hbw : Below w.heap.size w wr := by rw [HW.out.2.2]; exact hb
      have CFr := CF lt wr hbw
      have CNr := CN lt wr
      have hbb := hE.lt
      have HK := Lib.hid (And.intro hE (And.intro hb (And.intro hs (And.intro hlt (And.intro (fun a h => hor a lt h) (And.intro (hfl lt).2.2 (And.intro hnd hm)))))))
      have hq64 : (q : Int) ≤ 64 := by omega
      have hq1 : 1 ≤ q := hp.1
      have HP := Lib.hid hp
      clear hE hb hs hlt hor CN CF hfl hnd hm hL hbw hp hq
      go_wp2_with fail
      refine CNr.mono ?_
      rintro e w1 ⟨rfl, rfl⟩
      go_wp2_with fail
      refine CFr.mono ?_
      rintro e w2 ⟨rfl, hw2⟩
      have hc2 : Cells w2 w1.heap.size 9 (strs L) := by rw [hw2]; exact cells_new _ _ _
      have hb2 : Below w1.heap.size w1 w2 := by rw [hw2]; exact below_new _ _
      have hE2 : Em w2 b n (fun x => ofN x k) := HK.out.1.kept (World.grownBy.but (grown_of_below hb2) none) (by simp)
      have HC := Lib.hid (And.intro hc2 (And.intro hE2 (HK.out.2.1.trans (hb2.mono (by omega)))))
      clear hw2 hc2 hb2 hE2 CNr CFr
      go_wp2_with fail
      go_loopw [14] (fun v wr => ∃ i n' : Nat, i ≤ m ∧ v = .int .i64 (i : Int) ∧ Em wr b n' (fun x => ofN x k + (if x ∈ L.take i then q else 0)) ∧ n' ≤ n + i ∧ Cells wr w1.heap.size 9 (strs L) ∧ Below b w wr) (fun v _ => m - (RowKit.intOf v).toNat)
      case atStart => exact ⟨0, n, by omega, rfl, HC.out.2.1.congr (fun x => by simp), by omega, HC.out.1, HC.out.2.2⟩
      case round =>
        obtain ⟨i, n', hi, rfl, hE, hn', hc, hb⟩ := hrel
        by_cases lti : i < m
        case neg =>
          have i2 : ¬ (i : Int) < (m : Int) := by omega
          rw [List.take_of_length_le (by have := HK.out.2.2.2.2.2.2.2; omega)] at hE
          have HE := Lib.hid (And.intro (hE.congr (fun x => (HK.out.2.2.1 x).symm)) hb)
          clear hE hb hc
          go_wp2_with fail
          go_roundw
          case rel => exact ⟨k + 1, n', by omega, by have := HP.out.2.2.2.1; rw [this]; go_num, HE.out.1, by omega, HE.out.2⟩
          case measure => simp [RowKit.intOf]; omega
        case pos =>
          have i2 : (i : Int) < (m : Int) := by omega
          obtain ⟨x, hx⟩ : ∃ x, L[i]? = some x := ⟨_, List.getElem?_eq_getElem (by rw [HK.out.2.2.2.2.2.2.2]; exact lti)⟩
          have xc := (hc.cell i).trans (strs_at hx)
          have ht : L.take (i + 1) = L.take i ++ [x] := by rw [List.take_add_one, hx]; rfl
          have hni : x ∉ L.take i := fun hm => by
            have h2 : (L.take (i + 1)).Nodup := HK.out.2.2.2.2.2.2.1.sublist (List.take_sublist _ _)
            rw [ht, List.nodup_append] at h2
            exact h2.2.2 x hm x (by simp) rfl
          have hxl : x.length ≤ 10000 := by have := HK.out.2.2.2.2.2.1 x (List.mem_of_getElem? hx); omega
          obtain ⟨O, hO⟩ : ∃ o, ofN x k = o := ⟨_, rfl⟩
          have hfx : ofN x k + (if x ∈ L.take i then q else 0) = O := by rw [if_neg hni]; exact hO
          have hq8 : O < q := by rw [← hO]; exact HK.out.2.2.2.1 x
          have HO := Lib.hid (HK.out.2.2.2.2.1 O hq8)
          have HX := Lib.hid (And.intro hE (And.intro hc (And.intro hb (And.intro ht (And.intro hfx hO)))))
          clear hE hc hb ht hni hfx hx hO
          go_wp2_with (first
            | (at_lookup; refine wpList_lookEm rfl _ _ rfl b n' _ HX.out.1 x hxl O HX.out.2.2.2.2.1 rfl rfl ?_)
            | (at_mapUpdate; refine wpList_updEm rfl _ _ _ rfl b n' _ HX.out.1 (by omega) x hxl (O + q) (by omega) (by omega) rfl rfl (by show Value.int .i64 (bits BinOp.or IntKind.i64 (O : Int) (q : Int)) = _; rw [HO.out]) ?_)
            | fail)
          intro w3 hE3 hg3
          have hgb : w1.heap.size < wr.heap.size := HX.out.2.1.lt
          have hc3 : Cells w3 w1.heap.size 9 (strs L) := (hg3.block _ hgb (by intro e; injection e with e; omega)).trans HX.out.2.1
          have hb3 : Below b w w3 := HX.out.2.2.1.trans ⟨hg3.os, hg3.tape, hg3.output, hg3.size, fun j hj => hg3.block j (by have := HX.out.2.2.1.size; omega) (by intro e; injection e with e; omega)⟩
          have hE4 : Em w3 b (n' + 1) (fun z => ofN z k + (if z ∈ L.take (i + 1) then q else 0)) := hE3.congr (fun z => by
            rw [HX.out.2.2.2.1]
            by_cases e : z = x
            · subst e
              rw [if_pos rfl, if_pos (by simp), HX.out.2.2.2.2.2]
            · rw [if_neg e]
              simp [e])
          have HE := Lib.hid (And.intro hE4 (And.intro hc3 hb3))
          clear hE3 hg3 hgb hc3 hb3 hE4
          go_wp2_with fail
          exact ⟨⟨i + 1, n' + 1, by omega, by go_num, HE.out.1, by omega, HE.out.2.1, HE.out.2.2⟩, by simp [RowKit.intOf]; omega⟩
end Go.Proofs.YtncglgbogplpcaaDoor
