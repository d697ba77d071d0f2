/-
  Contracts: the document's Has.
-/
import Derived.Test.YtegkogadceodlaaTrt
namespace Go.Proofs.Ytegkogadceodlaa
open Go.RowKit Go.Shelf Go.Lib

set_option maxHeartbeats 4000000 in
theorem refHas_any (kd : Int) : ∀ N e, szE e ≤ N → ∀ v w, Nd w w.heap.size e v →
    Calls Try.prog 99 #[v, .int .i64 kd] w fun r w' => r = .returned (.bool (!noneE [kd] e)) ∧ Below w.heap.size w w' := by
  intro N
  induction N with
  | zero => intro e h; have := szE_pos e; omega
  | succ N ih =>
    intro e he v w h
    obtain ⟨_, _, A, cap, rfl, hk⟩ := Nd_iff.1 h
    obtain ⟨W0, hW0⟩ : ∃ W0, w.alloc (.cells #[.int .i64 e.k, .int .i64 e.c, .slice A e.ks.length cap] 24) = W0 := ⟨_, rfl⟩
    have hb0 : Below w.heap.size w W0 := by rw [← hW0]; exact below_new _ _
    have hz0 : w.heap.size < W0.heap.size := by rw [← hW0]; simp
    have c0 : W0.cell? ⟨w.heap.size, 0, none⟩ = some (.int .i64 e.k) := by rw [← hW0]; simp
    have c2 : W0.cell? ⟨w.heap.size, 2, none⟩ = some (.slice A e.ks.length cap) := by rw [← hW0]; simp
    have hk0 := hk.on hb0
    have hln : e.ks.length ≤ 9223372036854775807 := by have := hk.l; have := hk.m; unfold maxLen at this; omega
    have hS := noneE_eq [kd] e
    have hkid := fun i f (hf : e.ks[i]? = some f) => szE_kid (List.mem_of_getElem? hf)
    have ih' : ∀ f, szE f < szE e → ∀ v w, Nd w w.heap.size f v → Calls Try.prog 99 #[v, .int .i64 kd] w fun r w' => r = .returned (.bool (!noneE [kd] f)) ∧ Below w.heap.size w w' := fun f hf => ih f (by omega)
    obtain ⟨R, hR⟩ : ∃ R, noneE [kd] e = R := ⟨_, rfl⟩
    rw [hR] at hS ⊢
    generalize e.k = kk at *
    generalize e.c = cc at *
    generalize e.ks = ks at *
    obtain ⟨n, hn⟩ : ∃ n, ks.length = n := ⟨_, rfl⟩
    rw [hn] at hW0 c2 hln ⊢
    have HW := Lib.hid hW0
    have HK := Lib.hid (And.intro hk0 hb0)
    have HI := Lib.hid ih'
    have HKD := Lib.hid hkid
    have HN := Lib.hid hn
    have HS := Lib.hid hS
    clear hW0 hk hk0 hb0 ih ih' hkid hn h he hR hS
    go_enter Try.func99, Try.ntmps99
    go_wp2_with fail
    rw [HW.out]
    go_loopw [5] (fun i wr => ∃ k : Nat, i = .int .i64 k ∧ k ≤ n ∧ noneE.all [kd] (ks.take k) = true ∧ Below W0.heap.size W0 wr) (fun i _ => n - (RowKit.intOf i).toNat)
    case atStart => exact ⟨0, rfl, Nat.zero_le _, by rw [List.take_zero]; rfl, Below.refl _ _⟩
    case round =>
      obtain ⟨k, rfl, hkn, hyes, hb⟩ := hrel
      have c0' := (hb.cell (p := ⟨w.heap.size, 0, none⟩) hz0).trans c0
      have c2' := (hb.cell (p := ⟨w.heap.size, 2, none⟩) hz0).trans c2
      by_cases hlt : k < n
      · obtain ⟨f, hf⟩ : ∃ f, ks[k]? = some f := ⟨ks[k]'(by rw [HN.out]; exact hlt), List.getElem?_eq_getElem _⟩
        have i1 : (k : Int) < (n : Int) := by omega
        obtain ⟨b, o, rfl, hbl, hr⟩ := HK.out.1.r (by rintro rfl; simp at hf)
        obtain ⟨Af, capf, d0, d1, d2, hN⟩ := row_get' hr hf
        have d0' := (hb.cell (p := ⟨b, o + k * 3, none⟩) hbl).trans d0
        have d1' := (hb.cell (p := ⟨b, o + k * 3 + 1, none⟩) hbl).trans d1
        have d2' := (hb.cell (p := ⟨b, o + k * 3 + 2, none⟩) hbl).trans d2
        have hs := none_take [kd] hf
        rw [hyes, Bool.true_and] at hs
        have hC := HI.out f (HKD.out k f hf) _ wr ((hN.below hb).mono hb.size)
        obtain ⟨q, hq⟩ : ∃ q, noneE [kd] f = q := ⟨_, rfl⟩
        rw [hq] at hC hs
        have hC := Lib.hid hC
        have HH := Lib.hid (And.intro hs (And.intro hb hlt))
        clear hs hb hN hr hbl hq hyes d0 d1 d2
        go_wp2_with fail
        refine hC.out.mono ?_
        rintro r w2 ⟨rfl, hb2⟩
        have HB2 := Lib.hid (HH.out.2.1.trans (hb2.mono HH.out.2.1.size))
        clear hb2
        cases q
        · obtain rfl : R = false := by rw [HS.out, none_stop [kd] HH.out.1, Bool.and_false]
          go_wp2
          go_ret
          exact ⟨rfl, HK.out.2.trans (HB2.out.mono HK.out.2.size)⟩
        · go_wp2
          go_roundw
          case rel => exact ⟨k + 1, by go_num, by omega, HH.out.1, HB2.out⟩
          case measure => simp [RowKit.intOf]; omega
      · have hkn : k = n := by omega
        subst hkn
        have i1 : ¬ (k : Int) < (k : Int) := by omega
        have ht : ks.take k = ks := by rw [← HN.out, List.take_length]
        rw [ht] at hyes
        have HY := Lib.hid (And.intro hyes (HK.out.2.trans (hb.mono HK.out.2.size)))
        clear hb ht hyes
        by_cases hq : kk = kd
        · subst hq
          obtain rfl : R = false := by rw [HS.out]; simp
          go_wp2
          go_ret
          exact ⟨rfl, HY.out.2⟩
        · have q1 : (kk == kd) = false := by simpa using hq
          obtain rfl : R = true := by rw [HS.out, HY.out.1]; simp [hq]
          clear hq
          go_wp2
          go_ret
          exact ⟨rfl, HY.out.2⟩
end Go.Proofs.Ytegkogadceodlaa
