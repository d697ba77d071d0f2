/-
  Contracts: virguleref02.gather at its kind 3.
  Contracts: virguleref02.Make, Union, Cut, Minus, Not.
  Contracts: virguleref04.Set.
-/
import Derived.Test.YtphhdkffnboboaaPap
import Derived.Test.YtphhdkffnboboaaPah
import Derived.Test.YtphhdkffnboboaaPaq
import Derived.Test.YtphhdkffnboboaaPad
namespace Go.Proofs.Ytphhdkffnboboaa
open Go.RowKit Go.Shelf
open Go.Lib

set_option maxHeartbeats 16000000 in
set_option maxRecDepth 100000 in
theorem gather3_any (A : Option Addr) (cap : Nat) (xs : List Rng) (A' : Option Addr) (cap' : Nat) (ys : List Rng) (w : World) (h : RS w w.heap.size A cap xs) (hF : Fw A cap) (h' : RS w w.heap.size A' cap' ys) (hF' : Fw A' cap')
    (hm : ∀ x ∈ xs, may x = true) (hm' : ∀ x ∈ ys, may x = true) (hl : xs.length ≤ 2000) (hl' : ys.length ≤ 2000) :
    Calls Try.prog 74 #[.slice A xs.length cap, .slice A' ys.length cap', .int .i64 3] w (GatPost 3 xs ys w) := by
  obtain ⟨i0, hi, hz0, hz1, hz2⟩ := info_parts Try.info40
  have HM := Lib.hid (show ∀ x ∈ xs ++ ys, may x = true from fun x hx => (List.mem_append.1 hx).elim (hm x) (hm' x))
  have H1 := Lib.hid h
  have H2 := Lib.hid h'
  have HI := Lib.hid in_any
  have hlen : (xs ++ ys).length ≤ 4000 := by rw [List.length_append]; omega
  have E0 := own_empty2 w w.heap.size 40 (Nat.le_refl _)
  have hb0 := below_new w (.cells #[] 40)
  have R1 := (h.below hb0).mono hb0.size
  have HLL := Lib.hid (And.intro hl hl')
  have HHL := Lib.hid hlen
  clear h h' hm hm' hlen
  unfold GatPost
  go_enter Try.func74, Try.ntmps74
  go_wp2_with (first
    | (at_builtin
       refine wpList_append_rg rfl (.tmp 14) (.tmp 15) 36 36 rfl w.heap.size 40 i0 (.agg #[.int .i32 0, .int .i32 0]) Try.underlying36 Try.underlying36 hi hz0 hz1 hz2 rfl _ [] rfl E0 A cap xs rfl R1 hF (by simp; omega) hb0.size ?_
       intro v1 w1 own1 hb1
       have hbw1 := hb0.trans hb1
       have R2 := (H2.out.below hbw1).mono hbw1.size
       clear E0 R1 hb0 hb1)
    | (at_builtin
       refine wpList_append_rg rfl (.tmp 16) (.tmp 17) 36 36 rfl w.heap.size 40 i0 (.agg #[.int .i32 0, .int .i32 0]) Try.underlying36 Try.underlying36 hi hz0 hz1 hz2 rfl v1 ([] ++ xs) rfl own1 A' cap' ys rfl R2 hF' (by simp; omega) hbw1.size ?_
       intro v2 w2 own2 hb2
       have hbw2 := hbw1.trans hb2
       clear own1 R2 hbw1 hb2))
  rw [List.nil_append] at own2
  obtain ⟨A2, c2, rfl, RS2⟩ := ownsRow_RS own2 (may_i32 HM.out)
  have HC := Lib.hid (points_any A2 c2 (xs ++ ys) w2 RS2 HM.out (by have := HHL.out; omega))
  have HB2 := Lib.hid hbw2
  clear own2 RS2 hbw2
  unfold PtsPost at HC
  go_wp2_with fail
  refine HC.out.mono ?_
  rintro e w3 ⟨l, A3, c3, rfl, hP, hll, hLS, hb3⟩
  have hbz := HB2.out.trans (hb3.mono HB2.out.size)
  have R1 := Lib.hid ((H1.out.below hbz).mono hbz.size)
  have R2 := Lib.hid ((H2.out.below hbz).mono hbz.size)
  have HP := Lib.hid hP
  have HPB := Lib.hid (pts_bounds hP HM.out)
  have HP0 := Lib.hid (pts_first hP HM.out)
  have HPL := Lib.hid (fun i p h1 h2 => pts_last hP HM.out (i := i) (p := p) h1 h2)
  have HLN := Lib.hid (pts_len hP)
  obtain ⟨n, hn⟩ : ∃ n, l.length = n := ⟨_, rfl⟩
  have HN := Lib.hid hn
  rw [hn] at hll HLN ⊢
  have HLS := Lib.hid hLS
  have HB := Lib.hid hbz
  have HLB := Lib.hid (show n ≤ 2 * (xs.length + ys.length) + 2 by rw [List.length_append] at hll; exact hll)
  have hnb : n ≤ 9000 := by have := HLB.out; have := HLL.out; omega
  clear hb3 HB2 hbz hP hn hLS hll H1 H2
  go_wp2
  go_loopw [8, 9] (fun v i wr => ∃ (k : Nat) (p : Int) (out : List Rng), i = .int .i64 k ∧ l[k]? = some p ∧ GatInv (gatF 3 xs ys) out p ∧ out.length ≤ k ∧ wr.ownsRow w3.heap.size 40 2 v out.length (cells2 out) ∧ Below w3.heap.size w3 wr) (fun _ i _ => n - (RowKit.intOf i).toNat)
  case atStart => exact ⟨0, 0, [], rfl, HP0.out, gat_start _, Nat.le_refl _, World.ownsRow_nil _ _ _ _, Below.refl _ _⟩
  case round =>
    obtain ⟨k, p, out, rfl, hp, I, hol, hown, hb⟩ := hrel
    have hkn : k < n := by have := (List.getElem?_eq_some_iff.1 hp).1; have := HN.out; omega
    have HIv := Lib.hid I
    have HOL := Lib.hid hol
    clear I
    by_cases hlt : k + 1 < n
    · obtain ⟨q, hq⟩ : ∃ q, l[k + 1]? = some q := ⟨l[k + 1]'(by have := HN.out; omega), List.getElem?_eq_getElem _⟩
      have hgap := pw_gap HP.out.s hp hq
      have hp0 := HPB.out p (List.mem_of_getElem? hp)
      have hq0 := HPB.out q (List.mem_of_getElem? hq)
      have HG := Lib.hid (fun r h1 h2 => gat_const (xs := xs) (ys := ys) 3 HP.out hgap.2 (r := r) h1 h2)
      obtain ⟨hpq, _⟩ := hgap
      obtain ⟨b, o, rfl, hbl, hcell⟩ := HLS.out.a
      have qp := (hb.cell (p := ⟨b, o + k, none⟩) hbl).trans (hcell k p hp)
      have qq := (hb.cell (p := ⟨b, o + (k + 1), none⟩) hbl).trans (hcell (k + 1) q hq)
      have HQ := Lib.hid hq
      have HP1 := Lib.hid hp
      clear hcell hp hq
      obtain ⟨p0, p1⟩ := hp0
      obtain ⟨q0, q1⟩ := hq0
      have i1 : (k : Int) + 1 < (n : Int) := by omega
      have i2 : (k : Int) < (n : Int) := by omega
      have i3 : (0 : Int) ≤ (k : Int) := by omega
      have C1 := Lib.hid (fun m => HI.out A cap xs p (by omega) (by omega) (wr.drewN m) ((R1.out.below (below_drewN hb m)).mono (below_drewN hb m).size))
      have C2 := Lib.hid (fun m => HI.out A' cap' ys p (by omega) (by omega) (wr.drewN m) ((R2.out.below (below_drewN hb m)).mono (below_drewN hb m).size))
      obtain ⟨X, hX⟩ : ∃ X, hasR xs p = X := ⟨_, rfl⟩
      obtain ⟨Y, hY⟩ : ∃ Y, hasR ys p = Y := ⟨_, rfl⟩
      rw [hX] at C1
      rw [hY] at C2
      have HF := Lib.hid (show gatF 3 xs ys p = wantR 3 X Y by rw [gatF, hX, hY])
      clear hX hY
      go_wp2_with fail
      go_quiet (first | (with_reducible refine Calls.quiet_of_same (C1.out _)) | (with_reducible refine Calls.quiet_of_same (C2.out _)))
      have hbq := below_drewN hb nq
      have howq : (wr.drewN nq).ownsRow w3.heap.size 40 2 u8 out.length (cells2 out) := hown
      have qp' : (wr.drewN nq).cell? ⟨b, o + k, none⟩ = some (.int .i32 p) := qp
      have qq' : (wr.drewN nq).cell? ⟨b, o + (k + 1), none⟩ = some (.int .i32 q) := qq
      generalize wr.drewN nq = W at *
      clear hb hown qp qq C1 C2
      cases X <;> cases Y
      · have HFW := Lib.hid (show gatF 3 xs ys p = true by rw [HF.out]; rfl)
        have hqm : -2147483648 ≤ q - 1 := by omega
        have hqm2 : q - 1 ≤ 2147483647 := by omega
        have hol2 : out.length ≤ 9000 := by have := HOL.out; omega
        rcases List.eq_nil_or_concat out with rfl | ⟨pre, z, rfl⟩
        · have HJ := Lib.hid (gat_push0 HIv.out hpq p0 q1 HG.out HFW.out)
          rw [List.length_nil] at howq
          obtain ⟨A0, c0, hv0⟩ : ∃ A0 c0, u8 = .slice A0 0 c0 := by
            rcases howq.2 with ⟨h, _⟩ | ⟨g', c', _, h, _⟩
            · exact ⟨_, _, h⟩
            · exact ⟨_, _, h⟩
          subst hv0
          go_wp2_with fail
          go_quiet (fail)
          have qp'' : (W.drewN nq).cell? ⟨b, o + k, none⟩ = some (.int .i32 p) := qp'
          have qq'' : (W.drewN nq).cell? ⟨b, o + (k + 1), none⟩ = some (.int .i32 q) := qq'
          have how2 : (W.drewN nq).ownsRow w3.heap.size 40 2 (.slice A0 0 c0) 0 (cells2 []) := howq
          have hbq2 := below_drewN hbq nq
          generalize W.drewN nq = W2 at *
          clear qp' qq' howq hbq
          have own1 : W2.drew.ownsRow w3.heap.size 40 2 (.slice A0 0 c0) 0 (cells2 ([] : List Rng)) := how2
          have hb1 := hbq2.drew
          have hlt0 := own_block_lt own1
          have hs1 : w3.heap.size ≤ W2.drew.heap.size := hb1.size
          have own2 := own1.alloc (.cells #[.int .i32 p, .int .i32 (q - 1)] 40)
          have hnews := news2 W2.drew 40 (.int .i32 p) (.int .i32 (q - 1)) rfl rfl
          have h1c : ∀ u ∈ ([.int .i32 p, .int .i32 (q - 1)] : List Value), u.oneCell' = true := by intro u hu; simp at hu; rcases hu with rfl | rfl <;> rfl
          have hml : 0 + 1 ≤ maxLen := by unfold maxLen; omega
          have hsz : w3.heap.size ≤ (W2.drew.alloc (.cells #[.int .i32 p, .int .i32 (q - 1)] 40)).heap.size := by rw [World.size_alloc]; omega
          have hO := Lib.hid own2
          have hN2 := Lib.hid hnews
          have hby : (0 + 1) * 8 ≤ 140737488355328 := by omega
          have hQ2 := Lib.hid (And.intro h1c (And.intro hml (And.intro hsz (And.intro hb1 (And.intro hlt0 (And.intro hby (show 0 < 1 by omega)))))))
          have HEK := Lib.hid (IntWalk.i64_in ((k : Int) + 1) (by omega))
          have HEQ := Lib.hid (IntWalk.i32_in (q - 1) (by omega))
          have HTN := Lib.hid (show ((k : Int) + 1).toNat = k + 1 by omega)
          have i5 : (0 : Int) ≤ (k : Int) + 1 := by omega
          clear how2 own1 hbq2 own2 hnews h1c hml hsz hb1 hlt0 hby
          go_wp2_with fail
          have ek := HEK.out
          have eq := HEQ.out
          have et := HTN.out
          go_region_law (refine step_append_lies _ rfl (.tmp 92) (.tmp 104) 36 rfl w3.heap.size 40 i0 (.agg #[.int .i32 0, .int .i32 0]) 2 8 Try.underlying36 hi hz0 hz1 hz2 rfl (by decide) (.slice A0 0 c0) 0 (cells2 ([] : List Rng)) (by simp [Act.eval]) hO.out ⟨W2.heap.size, 0, none⟩ 1 1 [.int .i32 p, .int .i32 (q - 1)] (by simp [Act.eval]) rfl hN2.out hQ2.out.1 hQ2.out.2.2.2.2.2.2 hQ2.out.2.1 hQ2.out.2.2.2.2.2.1 hQ2.out.2.2.1 _ rfl ?_; intro g cap2 w4 own3 hgrow _ _)
          all_goals
            clear ek eq et
            have hbz : Below w3.heap.size w3 w4 := (hQ2.out.2.2.2.1.alloc hs1 _).grown hgrow hQ2.out.2.2.1 (fun k e => (hQ2.out.2.2.2.2.1 k e).1)
            have e3 : cells2 ([] : List Rng) ++ [.int .i32 p, .int .i32 (q - 1)] = cells2 (([] : List Rng) ++ [(p, q - 1)]) := by rw [cells2_snoc ([] : List Rng) (p, q - 1)]; rfl
            rw [e3] at own3
            have HO3 := Lib.hid own3
            clear e3 hgrow own3
            go_wp2
            go_roundw
            case rel => exact ⟨k + 1, q, ([] : List Rng) ++ [(p, q - 1)], by go_num, HQ.out, HJ.out, by have h := HOL.out; (try simp at h ⊢); (try omega), by rw [show (([] : List Rng) ++ [(p, q - 1)]).length = 0 + 1 from by simp]; exact HO3.out, hbz⟩
            case measure => simp [RowKit.intOf]; omega
        · rw [List.concat_eq_append] at *
          rw [List.length_append, List.length_singleton] at howq hol2
          obtain ⟨g', cap', rfl⟩ := ownsRow_succ howq
          obtain ⟨hzp, hzm⟩ := gat_hi HIv.out rfl
          have hzm := (may_iff _).1 hzm
          have HM1 := Lib.hid (fun e => gat_merge HIv.out hpq p0 q1 HG.out HFW.out e)
          have HM2 := Lib.hid (fun e => gat_push1 HIv.out hpq p0 q1 HG.out HFW.out e)
          obtain ⟨zl, zh⟩ := z
          simp only at hzp hzm
          obtain ⟨z1, z2, z3⟩ := hzm
          obtain ⟨d1, d2⟩ := cells2_get (pre ++ [(zl, zh)]) pre.length (zl, zh) (by simp)
          have t2 := (howq.cellAt (pre.length * 2 + 1) (by omega)).trans d2
          have HOW := Lib.hid howq
          have hgl := own_block_lt howq g' rfl
          clear d1 d2 howq
          obtain ⟨m, hm⟩ : ∃ m, pre.length = m := ⟨_, rfl⟩
          rw [hm] at t2 HOW hol2 ⊢
          have HMM := Lib.hid hm
          have j0 : (0 : Int) < (m : Int) + 1 := by omega
          have j1 : (0 : Int) ≤ (m : Int) := by omega
          clear hm
          by_cases c : zh + 1 = p
          · have HJ := Lib.hid (HM1.out c)
            have d : (zh + 1 == p) = true := by simp [c]
            have t3 := HOW.out.frozenAt (m * 2 + 1)
            clear c
            go_wp2_with fail
            go_quiet (fail)
            have qq'' : (W.drewN nq).cell? ⟨b, o + (k + 1), none⟩ = some (.int .i32 q) := qq'
            have t2' : (W.drewN nq).cell? ⟨g', m * 2 + 1, none⟩ = some (.int .i32 zh) := t2
            have t3' : (W.drewN nq).frozen? ⟨g', m * 2 + 1, none⟩ = false := t3
            have how2 : (W.drewN nq).ownsRow w3.heap.size 40 2 (.slice (some ⟨g', 0, none⟩) (m + 1) cap') (m + 1) (cells2 (pre ++ [(zl, zh)])) := HOW.out
            have hbq2 := below_drewN hbq nq
            have hst := how2.stored (m * 2 + 1) (.int .i32 (q - 1))
            generalize W.drewN nq = W2 at *
            have HS := Lib.hid (show (W2.setCell ⟨g', m * 2 + 1, none⟩ (.int .i32 (q - 1))).ownsRow w3.heap.size 40 2 (.slice (some ⟨g', 0, none⟩) (m + 1) cap') (m + 1) (cells2 (pre ++ [(zl, q - 1)])) from by
              have h := hst.1
              rw [← HMM.out, cells2_set, HMM.out] at h
              exact h)
            have HBZ := Lib.hid (hbq2.grown hst.2 hbq2.size (fun k e => by injection e with e; omega))
            clear qp' qq' t2 t3 how2 hbq hst
            go_wp2
            go_roundw
            case rel => exact ⟨k + 1, q, pre ++ [(zl, q - 1)], by go_num, HQ.out, HJ.out, by have h := HOL.out; simp [HMM.out] at h ⊢; omega, by rw [List.length_append, HMM.out]; exact HS.out, HBZ.out⟩
            case measure => simp [RowKit.intOf]; omega
          · have HJ := Lib.hid (HM2.out c)
            have d : (zh + 1 == p) = false := by simp [c]
            clear c
            go_wp2_with fail
            go_quiet (fail)
            have qp'' : (W.drewN nq).cell? ⟨b, o + k, none⟩ = some (.int .i32 p) := qp'
            have qq'' : (W.drewN nq).cell? ⟨b, o + (k + 1), none⟩ = some (.int .i32 q) := qq'
            have how2 : (W.drewN nq).ownsRow w3.heap.size 40 2 (.slice (some ⟨g', 0, none⟩) (m + 1) cap') (m + 1) (cells2 (pre ++ [(zl, zh)])) := HOW.out
            have hbq2 := below_drewN hbq nq
            generalize W.drewN nq = W2 at *
            clear qp' qq' t2 hbq
            have own1 : W2.drew.ownsRow w3.heap.size 40 2 (.slice (some ⟨g', 0, none⟩) (m + 1) cap') (m + 1) (cells2 (pre ++ [(zl, zh)])) := how2
            have hb1 := hbq2.drew
            have hlt0 := own_block_lt own1
            have hs1 : w3.heap.size ≤ W2.drew.heap.size := hb1.size
            have own2 := own1.alloc (.cells #[.int .i32 p, .int .i32 (q - 1)] 40)
            have hnews := news2 W2.drew 40 (.int .i32 p) (.int .i32 (q - 1)) rfl rfl
            have h1c : ∀ u ∈ ([.int .i32 p, .int .i32 (q - 1)] : List Value), u.oneCell' = true := by intro u hu; simp at hu; rcases hu with rfl | rfl <;> rfl
            have hml : (m + 1) + 1 ≤ maxLen := by unfold maxLen; omega
            have hsz : w3.heap.size ≤ (W2.drew.alloc (.cells #[.int .i32 p, .int .i32 (q - 1)] 40)).heap.size := by rw [World.size_alloc]; omega
            have hO := Lib.hid own2
            have hN2 := Lib.hid hnews
            have hby : ((m + 1) + 1) * 8 ≤ 140737488355328 := by omega
            have hQ2 := Lib.hid (And.intro h1c (And.intro hml (And.intro hsz (And.intro hb1 (And.intro hlt0 (And.intro hby (show 0 < 1 by omega)))))))
            have HEK := Lib.hid (IntWalk.i64_in ((k : Int) + 1) (by omega))
            have HEQ := Lib.hid (IntWalk.i32_in (q - 1) (by omega))
            have HTN := Lib.hid (show ((k : Int) + 1).toNat = k + 1 by omega)
            have i5 : (0 : Int) ≤ (k : Int) + 1 := by omega
            clear how2 own1 hbq2 own2 hnews h1c hml hsz hb1 hlt0 hby
            go_wp2_with fail
            have ek := HEK.out
            have eq := HEQ.out
            have et := HTN.out
            go_region_law (refine step_append_lies _ rfl (.tmp 92) (.tmp 104) 36 rfl w3.heap.size 40 i0 (.agg #[.int .i32 0, .int .i32 0]) 2 8 Try.underlying36 hi hz0 hz1 hz2 rfl (by decide) (.slice (some ⟨g', 0, none⟩) (m + 1) cap') (m + 1) (cells2 (pre ++ [(zl, zh)])) (by simp [Act.eval]) hO.out ⟨W2.heap.size, 0, none⟩ 1 1 [.int .i32 p, .int .i32 (q - 1)] (by simp [Act.eval]) rfl hN2.out hQ2.out.1 hQ2.out.2.2.2.2.2.2 hQ2.out.2.1 hQ2.out.2.2.2.2.2.1 hQ2.out.2.2.1 _ rfl ?_; intro g cap2 w4 own3 hgrow _ _)
            all_goals
              clear ek eq et
              have hbz : Below w3.heap.size w3 w4 := (hQ2.out.2.2.2.1.alloc hs1 _).grown hgrow hQ2.out.2.2.1 (fun k e => (hQ2.out.2.2.2.2.1 k e).1)
              have e3 : cells2 (pre ++ [(zl, zh)]) ++ [.int .i32 p, .int .i32 (q - 1)] = cells2 ((pre ++ [(zl, zh)]) ++ [(p, q - 1)]) := by rw [cells2_snoc (pre ++ [(zl, zh)]) (p, q - 1)]; rfl
              rw [e3] at own3
              have HO3 := Lib.hid own3
              clear e3 hgrow own3
              go_wp2
              go_roundw
              case rel => exact ⟨k + 1, q, (pre ++ [(zl, zh)]) ++ [(p, q - 1)], by go_num, HQ.out, HJ.out, by have h := HOL.out; (try simp [HMM.out] at h ⊢); (try omega), by rw [show ((pre ++ [(zl, zh)]) ++ [(p, q - 1)]).length = (m + 1) + 1 from by simp [HMM.out]]; exact HO3.out, hbz⟩
              case measure => simp [RowKit.intOf]; omega
      · have HFW := Lib.hid (show gatF 3 xs ys p = true by rw [HF.out]; rfl)
        have hqm : -2147483648 ≤ q - 1 := by omega
        have hqm2 : q - 1 ≤ 2147483647 := by omega
        have hol2 : out.length ≤ 9000 := by have := HOL.out; omega
        rcases List.eq_nil_or_concat out with rfl | ⟨pre, z, rfl⟩
        · have HJ := Lib.hid (gat_push0 HIv.out hpq p0 q1 HG.out HFW.out)
          rw [List.length_nil] at howq
          obtain ⟨A0, c0, hv0⟩ : ∃ A0 c0, u8 = .slice A0 0 c0 := by
            rcases howq.2 with ⟨h, _⟩ | ⟨g', c', _, h, _⟩
            · exact ⟨_, _, h⟩
            · exact ⟨_, _, h⟩
          subst hv0
          go_wp2_with fail
          go_quiet (fail)
          have qp'' : (W.drewN nq).cell? ⟨b, o + k, none⟩ = some (.int .i32 p) := qp'
          have qq'' : (W.drewN nq).cell? ⟨b, o + (k + 1), none⟩ = some (.int .i32 q) := qq'
          have how2 : (W.drewN nq).ownsRow w3.heap.size 40 2 (.slice A0 0 c0) 0 (cells2 []) := howq
          have hbq2 := below_drewN hbq nq
          generalize W.drewN nq = W2 at *
          clear qp' qq' howq hbq
          have own1 : W2.drew.ownsRow w3.heap.size 40 2 (.slice A0 0 c0) 0 (cells2 ([] : List Rng)) := how2
          have hb1 := hbq2.drew
          have hlt0 := own_block_lt own1
          have hs1 : w3.heap.size ≤ W2.drew.heap.size := hb1.size
          have own2 := own1.alloc (.cells #[.int .i32 p, .int .i32 (q - 1)] 40)
          have hnews := news2 W2.drew 40 (.int .i32 p) (.int .i32 (q - 1)) rfl rfl
          have h1c : ∀ u ∈ ([.int .i32 p, .int .i32 (q - 1)] : List Value), u.oneCell' = true := by intro u hu; simp at hu; rcases hu with rfl | rfl <;> rfl
          have hml : 0 + 1 ≤ maxLen := by unfold maxLen; omega
          have hsz : w3.heap.size ≤ (W2.drew.alloc (.cells #[.int .i32 p, .int .i32 (q - 1)] 40)).heap.size := by rw [World.size_alloc]; omega
          have hO := Lib.hid own2
          have hN2 := Lib.hid hnews
          have hby : (0 + 1) * 8 ≤ 140737488355328 := by omega
          have hQ2 := Lib.hid (And.intro h1c (And.intro hml (And.intro hsz (And.intro hb1 (And.intro hlt0 (And.intro hby (show 0 < 1 by omega)))))))
          have HEK := Lib.hid (IntWalk.i64_in ((k : Int) + 1) (by omega))
          have HEQ := Lib.hid (IntWalk.i32_in (q - 1) (by omega))
          have HTN := Lib.hid (show ((k : Int) + 1).toNat = k + 1 by omega)
          have i5 : (0 : Int) ≤ (k : Int) + 1 := by omega
          clear how2 own1 hbq2 own2 hnews h1c hml hsz hb1 hlt0 hby
          go_wp2_with fail
          have ek := HEK.out
          have eq := HEQ.out
          have et := HTN.out
          go_region_law (refine step_append_lies _ rfl (.tmp 92) (.tmp 104) 36 rfl w3.heap.size 40 i0 (.agg #[.int .i32 0, .int .i32 0]) 2 8 Try.underlying36 hi hz0 hz1 hz2 rfl (by decide) (.slice A0 0 c0) 0 (cells2 ([] : List Rng)) (by simp [Act.eval]) hO.out ⟨W2.heap.size, 0, none⟩ 1 1 [.int .i32 p, .int .i32 (q - 1)] (by simp [Act.eval]) rfl hN2.out hQ2.out.1 hQ2.out.2.2.2.2.2.2 hQ2.out.2.1 hQ2.out.2.2.2.2.2.1 hQ2.out.2.2.1 _ rfl ?_; intro g cap2 w4 own3 hgrow _ _)
          all_goals
            clear ek eq et
            have hbz : Below w3.heap.size w3 w4 := (hQ2.out.2.2.2.1.alloc hs1 _).grown hgrow hQ2.out.2.2.1 (fun k e => (hQ2.out.2.2.2.2.1 k e).1)
            have e3 : cells2 ([] : List Rng) ++ [.int .i32 p, .int .i32 (q - 1)] = cells2 (([] : List Rng) ++ [(p, q - 1)]) := by rw [cells2_snoc ([] : List Rng) (p, q - 1)]; rfl
            rw [e3] at own3
            have HO3 := Lib.hid own3
            clear e3 hgrow own3
            go_wp2
            go_roundw
            case rel => exact ⟨k + 1, q, ([] : List Rng) ++ [(p, q - 1)], by go_num, HQ.out, HJ.out, by have h := HOL.out; (try simp at h ⊢); (try omega), by rw [show (([] : List Rng) ++ [(p, q - 1)]).length = 0 + 1 from by simp]; exact HO3.out, hbz⟩
            case measure => simp [RowKit.intOf]; omega
        · rw [List.concat_eq_append] at *
          rw [List.length_append, List.length_singleton] at howq hol2
          obtain ⟨g', cap', rfl⟩ := ownsRow_succ howq
          obtain ⟨hzp, hzm⟩ := gat_hi HIv.out rfl
          have hzm := (may_iff _).1 hzm
          have HM1 := Lib.hid (fun e => gat_merge HIv.out hpq p0 q1 HG.out HFW.out e)
          have HM2 := Lib.hid (fun e => gat_push1 HIv.out hpq p0 q1 HG.out HFW.out e)
          obtain ⟨zl, zh⟩ := z
          simp only at hzp hzm
          obtain ⟨z1, z2, z3⟩ := hzm
          obtain ⟨d1, d2⟩ := cells2_get (pre ++ [(zl, zh)]) pre.length (zl, zh) (by simp)
          have t2 := (howq.cellAt (pre.length * 2 + 1) (by omega)).trans d2
          have HOW := Lib.hid howq
          have hgl := own_block_lt howq g' rfl
          clear d1 d2 howq
          obtain ⟨m, hm⟩ : ∃ m, pre.length = m := ⟨_, rfl⟩
          rw [hm] at t2 HOW hol2 ⊢
          have HMM := Lib.hid hm
          have j0 : (0 : Int) < (m : Int) + 1 := by omega
          have j1 : (0 : Int) ≤ (m : Int) := by omega
          clear hm
          by_cases c : zh + 1 = p
          · have HJ := Lib.hid (HM1.out c)
            have d : (zh + 1 == p) = true := by simp [c]
            have t3 := HOW.out.frozenAt (m * 2 + 1)
            clear c
            go_wp2_with fail
            go_quiet (fail)
            have qq'' : (W.drewN nq).cell? ⟨b, o + (k + 1), none⟩ = some (.int .i32 q) := qq'
            have t2' : (W.drewN nq).cell? ⟨g', m * 2 + 1, none⟩ = some (.int .i32 zh) := t2
            have t3' : (W.drewN nq).frozen? ⟨g', m * 2 + 1, none⟩ = false := t3
            have how2 : (W.drewN nq).ownsRow w3.heap.size 40 2 (.slice (some ⟨g', 0, none⟩) (m + 1) cap') (m + 1) (cells2 (pre ++ [(zl, zh)])) := HOW.out
            have hbq2 := below_drewN hbq nq
            have hst := how2.stored (m * 2 + 1) (.int .i32 (q - 1))
            generalize W.drewN nq = W2 at *
            have HS := Lib.hid (show (W2.setCell ⟨g', m * 2 + 1, none⟩ (.int .i32 (q - 1))).ownsRow w3.heap.size 40 2 (.slice (some ⟨g', 0, none⟩) (m + 1) cap') (m + 1) (cells2 (pre ++ [(zl, q - 1)])) from by
              have h := hst.1
              rw [← HMM.out, cells2_set, HMM.out] at h
              exact h)
            have HBZ := Lib.hid (hbq2.grown hst.2 hbq2.size (fun k e => by injection e with e; omega))
            clear qp' qq' t2 t3 how2 hbq hst
            go_wp2
            go_roundw
            case rel => exact ⟨k + 1, q, pre ++ [(zl, q - 1)], by go_num, HQ.out, HJ.out, by have h := HOL.out; simp [HMM.out] at h ⊢; omega, by rw [List.length_append, HMM.out]; exact HS.out, HBZ.out⟩
            case measure => simp [RowKit.intOf]; omega
          · have HJ := Lib.hid (HM2.out c)
            have d : (zh + 1 == p) = false := by simp [c]
            clear c
            go_wp2_with fail
            go_quiet (fail)
            have qp'' : (W.drewN nq).cell? ⟨b, o + k, none⟩ = some (.int .i32 p) := qp'
            have qq'' : (W.drewN nq).cell? ⟨b, o + (k + 1), none⟩ = some (.int .i32 q) := qq'
            have how2 : (W.drewN nq).ownsRow w3.heap.size 40 2 (.slice (some ⟨g', 0, none⟩) (m + 1) cap') (m + 1) (cells2 (pre ++ [(zl, zh)])) := HOW.out
            have hbq2 := below_drewN hbq nq
            generalize W.drewN nq = W2 at *
            clear qp' qq' t2 hbq
            have own1 : W2.drew.ownsRow w3.heap.size 40 2 (.slice (some ⟨g', 0, none⟩) (m + 1) cap') (m + 1) (cells2 (pre ++ [(zl, zh)])) := how2
            have hb1 := hbq2.drew
            have hlt0 := own_block_lt own1
            have hs1 : w3.heap.size ≤ W2.drew.heap.size := hb1.size
            have own2 := own1.alloc (.cells #[.int .i32 p, .int .i32 (q - 1)] 40)
            have hnews := news2 W2.drew 40 (.int .i32 p) (.int .i32 (q - 1)) rfl rfl
            have h1c : ∀ u ∈ ([.int .i32 p, .int .i32 (q - 1)] : List Value), u.oneCell' = true := by intro u hu; simp at hu; rcases hu with rfl | rfl <;> rfl
            have hml : (m + 1) + 1 ≤ maxLen := by unfold maxLen; omega
            have hsz : w3.heap.size ≤ (W2.drew.alloc (.cells #[.int .i32 p, .int .i32 (q - 1)] 40)).heap.size := by rw [World.size_alloc]; omega
            have hO := Lib.hid own2
            have hN2 := Lib.hid hnews
            have hby : ((m + 1) + 1) * 8 ≤ 140737488355328 := by omega
            have hQ2 := Lib.hid (And.intro h1c (And.intro hml (And.intro hsz (And.intro hb1 (And.intro hlt0 (And.intro hby (show 0 < 1 by omega)))))))
            have HEK := Lib.hid (IntWalk.i64_in ((k : Int) + 1) (by omega))
            have HEQ := Lib.hid (IntWalk.i32_in (q - 1) (by omega))
            have HTN := Lib.hid (show ((k : Int) + 1).toNat = k + 1 by omega)
            have i5 : (0 : Int) ≤ (k : Int) + 1 := by omega
            clear how2 own1 hbq2 own2 hnews h1c hml hsz hb1 hlt0 hby
            go_wp2_with fail
            have ek := HEK.out
            have eq := HEQ.out
            have et := HTN.out
            go_region_law (refine step_append_lies _ rfl (.tmp 92) (.tmp 104) 36 rfl w3.heap.size 40 i0 (.agg #[.int .i32 0, .int .i32 0]) 2 8 Try.underlying36 hi hz0 hz1 hz2 rfl (by decide) (.slice (some ⟨g', 0, none⟩) (m + 1) cap') (m + 1) (cells2 (pre ++ [(zl, zh)])) (by simp [Act.eval]) hO.out ⟨W2.heap.size, 0, none⟩ 1 1 [.int .i32 p, .int .i32 (q - 1)] (by simp [Act.eval]) rfl hN2.out hQ2.out.1 hQ2.out.2.2.2.2.2.2 hQ2.out.2.1 hQ2.out.2.2.2.2.2.1 hQ2.out.2.2.1 _ rfl ?_; intro g cap2 w4 own3 hgrow _ _)
            all_goals
              clear ek eq et
              have hbz : Below w3.heap.size w3 w4 := (hQ2.out.2.2.2.1.alloc hs1 _).grown hgrow hQ2.out.2.2.1 (fun k e => (hQ2.out.2.2.2.2.1 k e).1)
              have e3 : cells2 (pre ++ [(zl, zh)]) ++ [.int .i32 p, .int .i32 (q - 1)] = cells2 ((pre ++ [(zl, zh)]) ++ [(p, q - 1)]) := by rw [cells2_snoc (pre ++ [(zl, zh)]) (p, q - 1)]; rfl
              rw [e3] at own3
              have HO3 := Lib.hid own3
              clear e3 hgrow own3
              go_wp2
              go_roundw
              case rel => exact ⟨k + 1, q, (pre ++ [(zl, zh)]) ++ [(p, q - 1)], by go_num, HQ.out, HJ.out, by have h := HOL.out; (try simp [HMM.out] at h ⊢); (try omega), by rw [show ((pre ++ [(zl, zh)]) ++ [(p, q - 1)]).length = (m + 1) + 1 from by simp [HMM.out]]; exact HO3.out, hbz⟩
              case measure => simp [RowKit.intOf]; omega
      · have HJ := Lib.hid (gat_skip HIv.out hpq HG.out (by rw [HF.out]; rfl))
        go_wp2
        go_roundw
        case rel => exact ⟨k + 1, q, out, by go_num, HQ.out, HJ.out, by have := HOL.out; omega, howq, hbq⟩
        case measure => simp [RowKit.intOf]; omega
      · have HJ := Lib.hid (gat_skip HIv.out hpq HG.out (by rw [HF.out]; rfl))
        go_wp2
        go_roundw
        case rel => exact ⟨k + 1, q, out, by go_num, HQ.out, HJ.out, by have := HOL.out; omega, howq, hbq⟩
        case measure => simp [RowKit.intOf]; omega
    · have hkn2 : n = k + 1 := by omega
      have hpe := HPL.out k p hp (by have := HN.out; omega)
      subst hpe
      have hm := HIv.out.m
      have HMm := Lib.hid hm
      clear hm
      have i1 : ¬ ((k : Int) + 1 < (n : Int)) := by omega
      have i4 : decide ((k : Int) + 1 < (n : Int)) = false := by simpa using i1
      subst hkn2
      go_wp2
      go_ret
      exact ⟨out, HIv.out.r, HMm.out, by have := HLB.out; omega, u8, rfl, own_mono hown HB.out.size, HB.out.trans (hb.mono HB.out.size)⟩
end Go.Proofs.Ytphhdkffnboboaa

namespace Go.Proofs.Ytphhdkffnboboaa
open Go.RowKit Go.Shelf
open Go.Lib

theorem gat_sp {how : Int} {xs ys : List Rng} {f : Int → Bool} {w : World} {e : Ending} {w' : World} (hf : ∀ r, f r = (decide (0 ≤ r) && decide (r < 1114112) && gatF how xs ys r)) (h : GatPost how xs ys w e w') :
    SP (norm f) w e w' ∧ (norm f).length ≤ 2 * (xs.length + ys.length) + 2 := by
  obtain ⟨out, ho, hh, hol, hH⟩ := h
  have hh' : ∀ r, hasR out r = f r := fun r => by
    rw [hf, Bool.eq_iff_iff, hh r]
    simp [and_assoc]
  refine ⟨sp_norm hH ho hh', ?_⟩
  rw [← norm_eq ho hh']
  exact hol
theorem may_in {xs : List Rng} (h : ∀ x ∈ xs, may x = true) {r : Int} (hr : hasR xs r = true) : 0 ≤ r ∧ r < 1114112 := by
  obtain ⟨x, hx, h1, h2⟩ := (hasR_iff xs r).1 hr
  have := (may_iff x).1 (h x hx)
  omega
theorem right_mays {xs : List Rng} (h : right xs = true) : ∀ x ∈ xs, may x = true := fun x hx => (right_may (b := -1) h x hx).1

theorem in_or {xs ys : List Rng} (h : ∀ x ∈ xs, may x = true) (h' : ∀ x ∈ ys, may x = true) (r : Int) : (hasR xs r || hasR ys r) = (decide (0 ≤ r) && decide (r < 1114112) && gatF 0 xs ys r) := by
  have a := fun e => may_in h (r := r) e
  have b := fun e => may_in h' (r := r) e
  have e : gatF 0 xs ys r = (hasR xs r || hasR ys r) := rfl
  rw [e]
  cases hx : hasR xs r <;> cases hy : hasR ys r <;> simp [hx, hy] at a b ⊢ <;> omega
theorem in_cut {xs ys : List Rng} (h : ∀ x ∈ xs, may x = true) (r : Int) : cutR xs ys r = (decide (0 ≤ r) && decide (r < 1114112) && gatF 1 xs ys r) := by
  have a := fun e => may_in h (r := r) e
  have e : gatF 1 xs ys r = (hasR xs r && hasR ys r) := rfl
  rw [e, cutR]
  cases hx : hasR xs r <;> cases hy : hasR ys r <;> simp [hx] at a ⊢ <;> omega
theorem in_minus {xs ys : List Rng} (h : ∀ x ∈ xs, may x = true) (r : Int) : minusR xs ys r = (decide (0 ≤ r) && decide (r < 1114112) && gatF 2 xs ys r) := by
  have a := fun e => may_in h (r := r) e
  have e : gatF 2 xs ys r = (hasR xs r && !hasR ys r) := rfl
  rw [e, minusR]
  cases hx : hasR xs r <;> cases hy : hasR ys r <;> simp [hx] at a ⊢ <;> omega
theorem in_not {xs : List Rng} (r : Int) : notR xs r = (decide (0 ≤ r) && decide (r < 1114112) && gatF 3 xs [] r) := by
  have e : gatF 3 xs [] r = !hasR xs r := rfl
  rw [e, notR]
  have e2 : decide (r ≤ 1114111) = decide (r < 1114112) := by rw [decide_eq_decide]; omega
  rw [e2]

/-- virguleref02.Make. -/
theorem rmake_sp (A : Option Addr) (c : Nat) (xs : List Rng) (w : World) (h : AW w A c xs) (hm : ∀ x ∈ xs, may x = true) (hl : xs.length ≤ 2000) :
    Calls Try.prog 52 #[.slice A xs.length c] w fun e w' => SP (norm (hasR xs)) w e w' ∧ (norm (hasR xs)).length ≤ 2 * xs.length + 2 := by
  have C := (gather0_any A c xs none 0 [] w h.r h.f (RS_nil _ _) (fun _ => rfl) hm (by simp) hl (by simp)).mono fun e w' hh => gat_sp (f := hasR xs) (fun r => by rw [← in_or hm (by simp) r]; simp [hasR_nil]) hh
  have C := Lib.hid C
  have hf := Lib.hid h.f
  clear h
  go_enter Try.func52, Try.ntmps52
  go_wp2_with fail
  refine C.out.mono ?_
  rintro e w1 ⟨⟨A1, c1, rfl, hS, hb⟩, hol⟩
  have H := Lib.hid (And.intro hS (And.intro hb hol))
  clear hS hb hol
  go_wp2
  go_ret
  exact ⟨⟨A1, c1, rfl, H.out.1, H.out.2.1⟩, by have := H.out.2.2; simpa using this⟩
/-- virguleref02.Not. -/
theorem rnot_sp (A : Option Addr) (c : Nat) (xs : List Rng) (w : World) (h : AW w A c xs) (hr : right xs = true) (hl : xs.length ≤ 2000) :
    Calls Try.prog 68 #[.slice A xs.length c] w (SP (norm (notR xs)) w) := by
  have C := Lib.hid ((gather3_any A c xs none 0 [] w h.r h.f (RS_nil _ _) (fun _ => rfl) (right_mays hr) (by simp) hl (by simp)).mono fun e w' hh => (gat_sp (f := notR xs) in_not hh).1)
  clear h hr hl
  go_enter Try.func68, Try.ntmps68
  go_wp2_with fail
  refine C.out.mono ?_
  rintro e w1 ⟨A1, c1, rfl, hS, hb⟩
  have H := Lib.hid (And.intro hS hb)
  clear hS hb
  go_wp2
  go_ret
  exact ⟨A1, c1, rfl, H.out.1, H.out.2⟩
end Go.Proofs.Ytphhdkffnboboaa

namespace Go.Proofs.Ytphhdkffnboboaa
open Go.RowKit Go.Shelf
open Go.Lib Go.Great

/-- The set of a class, as the document's answer makes it. -/
noncomputable def refSet (c : Nat) : List Rng := if c = 0 then norm (notR (norm (hasR (allP 35)))) else refS c
theorem allP_succ (n : Nat) : allP (n + 1) = allP n ++ refList (n + 1) := by
  unfold allP
  rw [List.range_succ]
  simp
theorem allP_len (n : Nat) : (allP n).length ≤ (allP (n + 1)).length := by rw [allP_succ]; simp
theorem allP_le (n : Nat) (h : n ≤ 35) : (allP n).length ≤ 200 := by
  have : ∀ m, n ≤ m → (allP n).length ≤ (allP m).length := by
    intro m hm
    induction m with
    | zero => obtain rfl : n = 0 := by omega
              omega
    | succ m ih =>
      by_cases c : n ≤ m
      · exact Nat.le_trans (ih c) (allP_len m)
      · obtain rfl : n = m + 1 := by omega
        omega
  exact Nat.le_trans (this 35 h) all_len
theorem SW.aw {w : World} {A : Option Addr} {c : Nat} {xs : List Rng} (h : SW w A c xs) : AW w A c xs := ⟨h.r, h.f.w⟩

set_option maxHeartbeats 4000000 in
set_option maxRecDepth 100000 in
theorem rset_14 (w : World) : Calls Try.prog 35 #[.int .i64 14] w (SP (syllP 14) w) := by
  obtain ⟨i0, hi, hz0, hz1, hz2⟩ := info_parts Try.info40
  have HI := Lib.hid (syll_i32 14)
  have HL := Lib.hid (syll_len 14)
  have HT := Lib.hid (syll_take 14)
  have H1 : Hid (∀ k : Nat, syl1 14 k = (44032 + 28 * (k : Int), 44032 + 28 * (k : Int))) := Lib.hid fun k => rfl
  go_enter Try.func35, Try.ntmps35
  go_wp2_with fail
  go_loopw [3, 4] (fun v i wr => ∃ k : Nat, ∃ r : Int, k ≤ 399 ∧ i = .int .i32 r ∧ Hid (r = 44032 + 28 * (k : Int)) ∧ 44032 ≤ r ∧ r ≤ 55204 ∧ wr.ownsRow w.heap.size 40 2 v k (cells2 ((syllP 14).take k)) ∧ Below w.heap.size w wr) (fun _ i _ => (55204 - RowKit.intOf i).toNat)
  case atStart => exact ⟨0, _, by omega, rfl, (rfl : (44032 : Int) = 44032 + 28 * ((0 : Nat) : Int)), by omega, by omega, World.ownsRow_nil _ _ _ _, Below.refl _ _⟩
  case round =>
    obtain ⟨k, r, hk, rfl, hr, r0, r1, hown, hb⟩ := hrel
    by_cases hlt : k < 399
    · have h2 : r ≤ 55203 := by have := hr.out; omega
      have own2 := hown.alloc (.cells #[.int .i32 r, .int .i32 r] 40)
      have hnews := news2 wr 40 (.int .i32 r) (.int .i32 r) rfl rfl
      have hlt0 := own_block_lt hown
      have hs := hb.size
      have HTk := Lib.hid (HT.out k hlt)
      have HQ := Lib.hid (H1.out k)
      go_wp2_with (at_builtin; refine wpList_append_own _ rfl _ _ 36 rfl w.heap.size 40 i0 (.agg #[.int .i32 0, .int .i32 0]) 2 8 Try.underlying36 hi hz0 hz1 hz2 rfl (by decide) u3 k (cells2 ((syllP 14).take k)) rfl own2 ⟨wr.heap.size, 0, none⟩ 1 1 [.int .i32 r, .int .i32 r] rfl rfl hnews ?c2 ?c3 ?c4 ?c5 ?_)
      case c2 => intro u hu; simp at hu; rcases hu with rfl | rfl <;> rfl
      case c3 => unfold maxLen; omega
      case c4 => omega
      case c5 => simp; omega
      intro v' w2 own3 hgrow _
      have hbz : Below w.heap.size w w2 := (hb.alloc hs _).grown hgrow (by simp; omega) (fun k e => (hlt0 k e).1)
      have e3 : cells2 ((syllP 14).take k) ++ [.int .i32 r, .int .i32 r] = cells2 ((syllP 14).take (k + 1)) := by
        rw [HTk.out, cells2_snoc, HQ.out]
        show _ = (_ : List Value) ++ [Value.int .i32 (44032 + 28 * (k : Int)), Value.int .i32 (44032 + 28 * (k : Int))]
        rw [show 44032 + 28 * (k : Int) = r by have := hr.out; omega]
      rw [e3] at own3
      clear e3 hgrow own2 hnews hown
      go_wp2
      go_roundw
      case rel => exact ⟨k + 1, _, by omega, rfl, (by have := hr.out; show r + 28 = 44032 + 28 * ((k + 1 : Nat) : Int); omega : Hid _), by omega, by have := hr.out; omega, own3, hbz⟩
      case measure => simp [RowKit.intOf]; omega
    · have hkn : k = 399 := by omega
      have h2 : 55203 < r := by have := hr.out; omega
      have e : (syllP 14).take k = syllP 14 := by rw [hkn, ← HL.out, List.take_length]
      rw [e] at hown
      have HO := Lib.hid hown
      have HZ := Lib.hid hb
      clear hown e hb
      subst hkn
      have d : decide (r ≤ (55203 : Int)) = false := by simpa using h2
      go_wp2
      go_ret
      exact sp_of ⟨_, rfl, by rw [HL.out]; exact HO.out, HZ.out⟩ HI.out
set_option maxHeartbeats 4000000 in
set_option maxRecDepth 100000 in
theorem rset_15 (w : World) : Calls Try.prog 35 #[.int .i64 15] w (SP (syllP 15) w) := by
  obtain ⟨i0, hi, hz0, hz1, hz2⟩ := info_parts Try.info40
  have HI := Lib.hid (syll_i32 15)
  have HL := Lib.hid (syll_len 15)
  have HT := Lib.hid (syll_take 15)
  have H2 : Hid (∀ k : Nat, syl1 15 k = (44032 + 28 * (k : Int) + 1, 44032 + 28 * (k : Int) + 27)) := Lib.hid fun k => rfl
  go_enter Try.func35, Try.ntmps35
  go_wp2_with fail
  go_loopw [3, 4] (fun v i wr => ∃ k : Nat, ∃ r : Int, k ≤ 399 ∧ i = .int .i32 r ∧ Hid (r = 44032 + 28 * (k : Int)) ∧ 44032 ≤ r ∧ r ≤ 55204 ∧ wr.ownsRow w.heap.size 40 2 v k (cells2 ((syllP 15).take k)) ∧ Below w.heap.size w wr) (fun _ i _ => (55204 - RowKit.intOf i).toNat)
  case atStart => exact ⟨0, _, by omega, rfl, (rfl : (44032 : Int) = 44032 + 28 * ((0 : Nat) : Int)), by omega, by omega, World.ownsRow_nil _ _ _ _, Below.refl _ _⟩
  case round =>
    obtain ⟨k, r, hk, rfl, hr, r0, r1, hown, hb⟩ := hrel
    by_cases hlt : k < 399
    · have h2 : r ≤ 55203 := by have := hr.out; omega
      have own2 := hown.alloc (.cells #[.int .i32 (r + 1), .int .i32 (r + 27)] 40)
      have hnews := news2 wr 40 (.int .i32 (r + 1)) (.int .i32 (r + 27)) rfl rfl
      have hlt0 := own_block_lt hown
      have hs := hb.size
      have HTk := Lib.hid (HT.out k hlt)
      have HQ := Lib.hid (H2.out k)
      go_wp2_with (at_builtin; refine wpList_append_own _ rfl _ _ 36 rfl w.heap.size 40 i0 (.agg #[.int .i32 0, .int .i32 0]) 2 8 Try.underlying36 hi hz0 hz1 hz2 rfl (by decide) u3 k (cells2 ((syllP 15).take k)) rfl own2 ⟨wr.heap.size, 0, none⟩ 1 1 [.int .i32 (r + 1), .int .i32 (r + 27)] rfl rfl hnews ?c2 ?c3 ?c4 ?c5 ?_)
      case c2 => intro u hu; simp at hu; rcases hu with rfl | rfl <;> rfl
      case c3 => unfold maxLen; omega
      case c4 => omega
      case c5 => simp; omega
      intro v' w2 own3 hgrow _
      have hbz : Below w.heap.size w w2 := (hb.alloc hs _).grown hgrow (by simp; omega) (fun k e => (hlt0 k e).1)
      have e3 : cells2 ((syllP 15).take k) ++ [.int .i32 (r + 1), .int .i32 (r + 27)] = cells2 ((syllP 15).take (k + 1)) := by
        rw [HTk.out, cells2_snoc, HQ.out]
        show _ = (_ : List Value) ++ [Value.int .i32 (44032 + 28 * (k : Int) + 1), Value.int .i32 (44032 + 28 * (k : Int) + 27)]
        rw [show 44032 + 28 * (k : Int) + 1 = r + 1 by have := hr.out; omega, show 44032 + 28 * (k : Int) + 27 = r + 27 by have := hr.out; omega]
      rw [e3] at own3
      clear e3 hgrow own2 hnews hown
      go_wp2
      go_roundw
      case rel => exact ⟨k + 1, _, by omega, rfl, (by have := hr.out; show r + 28 = 44032 + 28 * ((k + 1 : Nat) : Int); omega : Hid _), by omega, by have := hr.out; omega, own3, hbz⟩
      case measure => simp [RowKit.intOf]; omega
    · have hkn : k = 399 := by omega
      have h2 : 55203 < r := by have := hr.out; omega
      have e : (syllP 15).take k = syllP 15 := by rw [hkn, ← HL.out, List.take_length]
      rw [e] at hown
      have HO := Lib.hid hown
      have HZ := Lib.hid hb
      clear hown e hb
      subst hkn
      have d : decide (r ≤ (55203 : Int)) = false := by simpa using h2
      go_wp2
      go_ret
      exact sp_of ⟨_, rfl, by rw [HL.out]; exact HO.out, HZ.out⟩ HI.out

set_option maxHeartbeats 2000000 in
theorem rset_list (c : Nat) (h0 : 0 < c) (h : c < 36) (h14 : c ≠ 14 ∧ c ≠ 15) (w : World) : Calls Try.prog 35 #[.int .i64 (c : Int)] w (SP (refList c) w) := by
  have C := Lib.hid (list_any c h0 h)
  have d1 : ((c : Int) == 14) = false := by simp; omega
  have d2 : ((c : Int) == 15) = false := by simp; omega
  have d3 : ((c : Int) == 0) = false := by simp; omega
  have d4 : ((c : Int) != 0) = true := by simp; omega
  clear h0 h h14
  go_enter Try.func35, Try.ntmps35
  go_wp2_with fail
  refine (C.out _).mono ?_
  rintro e w1 ⟨A1, c1, rfl, hS, hb1⟩
  have H := Lib.hid (And.intro hS hb1)
  clear hS hb1
  go_wp2
  go_ret
  exact ⟨_, _, rfl, H.out.1, H.out.2⟩

set_option maxHeartbeats 4000000 in
set_option maxRecDepth 100000 in
theorem rset_other (w : World) : Calls Try.prog 35 #[.int .i64 0] w (SP (norm (notR (norm (hasR (allP 35))))) w) := by
  obtain ⟨i0, hi, hz0, hz1, hz2⟩ := info_parts Try.info40
  obtain ⟨F, hF⟩ : ∃ F : Nat → List Rng, ∀ k, F k = allP k := ⟨_, fun _ => rfl⟩
  have HF0 : Hid (F 0 = [(44032, 55203)]) := Lib.hid (by rw [hF]; rfl)
  have HFs : Hid (∀ k, F (k + 1) = F k ++ refList (k + 1)) := Lib.hid (fun k => by rw [hF, hF]; exact allP_succ k)
  have HFl : Hid (∀ k, k ≤ 35 → (F k).length ≤ 200) := Lib.hid (fun k hk => by rw [hF]; exact allP_le k hk)
  have HFT : Hid (F 35 = allP 35) := Lib.hid (hF 35)
  have hm := all_may
  have hl := all_len
  clear hF
  generalize allP 35 = T at *
  have CM := fun A c W (hS : SW W A c T) => rmake_sp A c T W hS.aw (List.all_eq_true.1 hm) (by omega)
  have hr := norm_right (hasR T)
  generalize norm (hasR T) = S at *
  have CN := fun A c W (hS : SW W A c S) (h : S.length ≤ 2000) => rnot_sp A c S W hS.aw hr h
  generalize norm (notR S) = S2 at *
  have HM := Lib.hid hm
  have HLT := Lib.hid hl
  have CM := Lib.hid CM
  have CN := Lib.hid CN
  have CL := Lib.hid list_any
  have hI : Hid (I32 (44032, 55203)) := Lib.hid (by unfold I32; simp)
  have hw0 := sw_new w [(44032, 55203)] 40 1 rfl (by simpa using hI.out) (by unfold maxLen; omega)
  have hown0 : (w.alloc (.cells #[.int .i32 44032, .int .i32 55203] 40)).ownsRow w.heap.size 40 2 (.slice (some ⟨w.heap.size, 0, none⟩) 1 1) (F 0).length (cells2 (F 0)) := by
    rw [HF0.out]
    exact ⟨rfl, .inr ⟨w.heap.size, 1, #[.int .i32 44032, .int .i32 55203], rfl, Nat.le_refl _, World.alloc_heap_new w _, Nat.le_refl _, by decide, rfl, rfl⟩⟩
  have hb0 := below_new w (.cells #[.int .i32 44032, .int .i32 55203] 40)
  generalize hW : w.alloc (.cells #[.int .i32 44032, .int .i32 55203] 40) = W0 at *
  have HW := Lib.hid hW
  have H0 := Lib.hid (And.intro hown0 hb0)
  clear hm hl hr hw0 hown0 hb0 hW
  go_enter Try.func35, Try.ntmps35
  go_wp2_with fail
  rw [HW.out]
  go_wp2_with fail
  go_loopw [5, 6] (fun v i wr => ∃ k : Nat, i = .int .i64 (k + 1 : Nat) ∧ k ≤ 35 ∧ wr.ownsRow w.heap.size 40 2 v (F k).length (cells2 (F k)) ∧ Below w.heap.size w wr) (fun _ i _ => 36 - (RowKit.intOf i).toNat)
  case atStart => exact ⟨0, rfl, by omega, H0.out.1, H0.out.2⟩
  case round =>
    obtain ⟨k, rfl, hk, hown, hb⟩ := hrel
    by_cases hlt : k < 35
    · have i1 : ((k : Int) + 1) ≤ 35 := by omega
      have C := CL.out (k + 1) (by omega) (by omega) wr
      have HF := Lib.hid (HFs.out k)
      have HLk := Lib.hid (HFl.out (k + 1) (by omega))
      rw [Int.natCast_add] at C
      generalize hP : refList (k + 1) = Pk at C HF
      clear hP
      have HO := Lib.hid (And.intro hown hb)
      have C := Lib.hid C
      clear hown hb
      go_wp2_with fail
      refine C.out.mono ?_
      rintro e w2 ⟨A1, c1, rfl, hS, hb2⟩
      have own2 := ownsRow_below HO.out.1 hb2
      have hbz := HO.out.2.trans (hb2.mono HO.out.2.size)
      have hlen : (F k).length + Pk.length ≤ 200 := by have := HLk.out; rw [HF.out, List.length_append] at this; omega
      have HX := Lib.hid (And.intro own2 (And.intro hS (And.intro hbz hlen)))
      clear own2 hS hbz hlen hb2
      go_wp2_with (refine wpList_append_rg rfl (.tmp 44) (.tmp 46) 36 36 rfl w.heap.size 40 i0 (.agg #[.int .i32 0, .int .i32 0]) Try.underlying36 Try.underlying36 hi hz0 hz1 hz2 rfl _ (F k) rfl HX.out.1 A1 c1 Pk rfl HX.out.2.1.r HX.out.2.1.f.w (by have := HX.out.2.2.2; omega) HX.out.2.2.1.size ?_; intro v2 w3 own3 hb3)
      rw [← HF.out] at own3
      have hbq := HX.out.2.2.1.trans hb3
      clear hb3
      go_wp2
      go_roundw
      case rel => exact ⟨k + 1, by go_num, by omega, own3, hbq⟩
      case measure => simp [RowKit.intOf]; omega
    · have hkn : k = 35 := by omega
      have e : F k = T := by rw [hkn, HFT.out]
      rw [e] at hown
      have i1 : (35 : Int) < (k : Int) + 1 := by omega
      have i2 : decide ((k : Int) + 1 ≤ 35) = false := by simp; omega
      clear hkn hlt e
      obtain ⟨A1, c1, hv, hS⟩ := sw_own hown (fun x hx => may_i32 (List.all_eq_true.1 HM.out) x hx)
      subst hv
      have C := Lib.hid (CM.out A1 c1 wr hS)
      have HB := Lib.hid hb
      clear hown hS hb
      go_wp2_with fail
      refine C.out.mono ?_
      rintro e w2 ⟨⟨A2, c2, rfl, hS, hb2⟩, hl⟩
      have C2 := Lib.hid (CN.out A2 c2 w2 hS (by have := HLT.out; omega))
      have HB2 := Lib.hid (HB.out.trans (hb2.mono HB.out.size))
      clear hS hb2 hl
      go_wp2_with fail
      refine C2.out.mono ?_
      rintro e w3 ⟨A3, c3, rfl, hS, hb3⟩
      have H := Lib.hid (And.intro hS (HB2.out.trans (hb3.mono HB2.out.size)))
      clear hS hb3
      go_wp2
      go_ret
      exact ⟨_, _, rfl, H.out.1, H.out.2⟩
theorem rset_any (c : Nat) (h : c < 36) (w : World) : Calls Try.prog 35 #[.int .i64 (c : Int)] w (SP (refSet c) w) := by
  unfold refSet
  by_cases h0 : c = 0
  · subst h0
    rw [if_pos rfl]
    exact rset_other w
  · rw [if_neg h0]
    unfold refS
    by_cases h1 : c = 14
    · subst h1
      exact rset_14 w
    · by_cases h2 : c = 15
      · subst h2
        exact rset_15 w
      · rw [if_neg (by omega)]
        exact rset_list c (by omega) h ⟨h1, h2⟩ w
end Go.Proofs.Ytphhdkffnboboaa

