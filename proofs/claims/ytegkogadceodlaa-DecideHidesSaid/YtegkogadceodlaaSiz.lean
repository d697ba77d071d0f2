/-
  Contracts: the document's Size: how many nodes an expression has, up to some and one.
-/
import Derived.Test.YtegkogadceodlaaTre
import Derived.IntWalk
namespace Go.Proofs.Ytegkogadceodlaa
open Go.RowKit Go.Shelf Go.Lib

set_option maxHeartbeats 2000000 in
theorem size_any : ∀ N e, szE e ≤ N → ∀ v (m : Nat) w, Nd w w.heap.size e v → m ≤ 100000 →
    Calls Try.prog 36 #[v, .int .i64 m] w fun r w' => r = .returned (.int .i64 ((min (szE e) (m + 1) : Nat) : Int)) ∧ Below w.heap.size w w' := by
  intro N
  induction N with
  | zero => intro e h; have := szE_pos e; omega
  | succ N ih =>
    intro e he v m w h hm
    obtain ⟨_, _, A, cap, rfl, hk⟩ := Nd_iff.1 h
    obtain ⟨W0, hW0⟩ : ∃ W0, w.alloc (.cells #[.int .i64 e.k, .int .i64 e.c, .slice A e.ks.length cap] 24) = W0 := ⟨_, rfl⟩
    have hb0 : Below w.heap.size w W0 := by rw [← hW0]; exact below_new _ _
    have hz0 : w.heap.size < W0.heap.size := by rw [← hW0]; simp
    have c2 : W0.cell? ⟨w.heap.size, 2, none⟩ = some (.slice A e.ks.length cap) := by rw [← hW0]; simp
    have hk0 := hk.on hb0
    have hS := szE_eq e
    have hkid := fun i f (hf : e.ks[i]? = some f) => szE_kid (List.mem_of_getElem? hf)
    have hln : e.ks.length ≤ 9223372036854775807 := by have := hk.l; have := hk.m; unfold maxLen at this; omega
    generalize e.k = kk at *
    generalize e.c = cc at *
    generalize e.ks = ks at *
    generalize szE e = S at *
    obtain ⟨n, hn⟩ : ∃ n, ks.length = n := ⟨_, rfl⟩
    obtain ⟨R, hR⟩ : ∃ R, min S (m + 1) = R := ⟨_, rfl⟩
    rw [hR]
    have HR := Lib.hid hR
    have HS := Lib.hid hS
    have HW := Lib.hid hW0
    have HK := Lib.hid (And.intro hk0 hb0)
    have HI := Lib.hid ih
    have HKD := Lib.hid hkid
    have HN := Lib.hid hn
    rw [hn] at c2 hln
    rw [hn] at HW ⊢
    clear hW0 hk hk0 hb0 ih hkid hn h hR hS
    go_enter Try.func36, Try.ntmps36
    go_wp2_with fail
    rw [HW.out]
    go_loopw [5, 6] (fun s i wr => ∃ k : Nat, i = .int .i64 k ∧ k ≤ n ∧ s = .int .i64 ((min (1 + szL (ks.take k)) (m + 1) : Nat) : Int) ∧ Below W0.heap.size W0 wr) (fun _ i _ => n - (RowKit.intOf i).toNat)
    case atStart =>
      have h0 : min (1 + szL (ks.take 0)) (m + 1) = 1 := by rw [List.take_zero]; show min (1 + 0) (m + 1) = 1; omega
      exact ⟨0, rfl, Nat.zero_le _, by rw [h0]; rfl, Below.refl _ _⟩
    case round =>
      obtain ⟨k, rfl, hkn, rfl, hb⟩ := hrel
      have c2' := (hb.cell (p := ⟨w.heap.size, 2, none⟩) hz0).trans c2
      by_cases hlt : k < n
      · obtain ⟨f, hf⟩ : ∃ f, ks[k]? = some f := ⟨ks[k]'(by rw [HN.out]; exact hlt), List.getElem?_eq_getElem _⟩
        have i1 : (k : Int) < (n : Int) := by omega
        obtain ⟨b, o, rfl, hbl, hr⟩ := HK.out.1.r (by rintro rfl; simp at hf)
        obtain ⟨x, y, z, d0, d1, d2, hN⟩ := row_get hr hf
        have d0' := (hb.cell (p := ⟨b, o + k * 3, none⟩) hbl).trans d0
        have d1' := (hb.cell (p := ⟨b, o + k * 3 + 1, none⟩) hbl).trans d1
        have d2' := (hb.cell (p := ⟨b, o + k * 3 + 2, none⟩) hbl).trans d2
        have hs := szL_take hf
        have hl := HKD.out k f hf
        obtain ⟨s, hse⟩ : ∃ s, min (1 + szL (ks.take k)) (m + 1) = s := ⟨_, rfl⟩
        rw [hse]
        by_cases hsm : s ≤ m
        · have i2 : (s : Int) ≤ (m : Int) := by omega
          have hC := HI.out f (by omega) (.agg #[x, y, z]) (m - s) wr ((hN.below hb).mono hb.size) (by omega)
          have hsub : ((m - s : Nat) : Int) = (m : Int) - (s : Int) := by omega
          rw [hsub] at hC
          have hC := Lib.hid hC
          go_wp2_with fail
          refine hC.out.mono ?_
          rintro r w2 ⟨rfl, hb2⟩
          have hbz := hb.trans (hb2.mono hb.size)
          obtain ⟨t, ht⟩ : ∃ t, min (szE f) (m - s + 1) = t := ⟨_, rfl⟩
          have htb : s + t ≤ 200001 := by omega
          have hsum : min (1 + szL (ks.take (k + 1))) (m + 1) = s + t := by rw [hs]; omega
          rw [ht]
          have hsum' := Lib.hid hsum
          have hw : wrap64 ((s : Int) + (t : Int)) = (s : Int) + (t : Int) := by unfold wrap64; omega
          clear hC hb2 hb hsum hs hl hse ht hm htb hsm he i2 hsub
          go_wp2
          go_roundw
          case rel =>
            have e2 : ((s : Int) + (t : Int)) = ((s + t : Nat) : Int) := (Int.natCast_add s t).symm
            exact ⟨k + 1, by go_num, by omega, by rw [hsum'.out, hw, e2], hbz⟩
          case measure => simp [RowKit.intOf]; omega
        · have i2 : decide ((s : Int) ≤ (m : Int)) = false := by simp; omega
          go_wp2_with fail
          go_wp2
          go_ret
          have h1 := szL_take_le ks k
          have h2 := HS.out
          obtain rfl : R = s := by rw [← HR.out]; omega
          exact ⟨rfl, HK.out.2.trans (hb.mono HK.out.2.size)⟩
      · have hkn : k = n := by omega
        subst hkn
        have i1 : ¬ (k : Int) < (k : Int) := by omega
        have ht : ks.take k = ks := by rw [← HN.out, List.take_length]
        have hq : min (1 + szL (ks.take k)) (m + 1) = R := by rw [ht, ← HS.out, HR.out]
        rw [hq]
        go_wp2
        go_ret
        exact ⟨rfl, HK.out.2.trans (hb.mono HK.out.2.size)⟩
end Go.Proofs.Ytegkogadceodlaa
