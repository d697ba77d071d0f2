/-
  Contracts: virguleref02.gather at its kind 0.
-/
import Derived.Test.YtphhdkffnboboaaPsj
import Derived.Test.YtphhdkffnboboaaPsf
namespace Go.Proofs.Ytphhdkffnboboaa
open Go.RowKit Go.Shelf
open Go.Lib

set_option maxHeartbeats 16000000 in
set_option maxRecDepth 100000 in
theorem gather0_any (A : Option Addr) (cap : Nat) (xs : List Rng) (A' : Option Addr) (cap' : Nat) (ys : List Rng) (w : World) (h : RS w w.heap.size A cap xs) (hF : Fw A cap) (h' : RS w w.heap.size A' cap' ys) (hF' : Fw A' cap')
    (hm : ∀ x ∈ xs, may x = true) (hm' : ∀ x ∈ ys, may x = true) (hl : xs.length ≤ 2000) (hl' : ys.length ≤ 2000) :
    Calls Try.prog 74 #[.slice A xs.length cap, .slice A' ys.length cap', .int .i64 0] w (GatPost 0 xs ys w) := by
  obtain ⟨i0, hi, hz0, hz1, hz2⟩ := info_parts Try.info40
  have HM := Lib.hid (show ∀ x ∈ xs ++ ys, may x = true from fun x hx => (List.mem_append.1 hx).elim (hm x) (hm' x))
  have H1 := Lib.hid h
  have H2 := Lib.hid h'
  have HI := Lib.hid in_any
  have hlen : (xs ++ ys).length ≤ 4000 := by rw [List.length_append]; omega
  have E0 := own_empty2 w w.heap.size 40 (Nat.le_refl _)
  have hb0 := below_new w (.cells #[] 40)
  have R1 := (h.below hb0).mono hb0.size
  have HLL := Lib.hid (And.intro hl hl')
  have HHL := Lib.hid hlen
  clear h h' hm hm' hlen
  unfold GatPost
  go_enter Try.func74, Try.ntmps74
  go_wp2_with (first
    | (at_builtin
       refine wpList_append_rg rfl (.tmp 14) (.tmp 15) 36 36 rfl w.heap.size 40 i0 (.agg #[.int .i32 0, .int .i32 0]) Try.underlying36 Try.underlying36 hi hz0 hz1 hz2 rfl _ [] rfl E0 A cap xs rfl R1 hF (by simp; omega) hb0.size ?_
       intro v1 w1 own1 hb1
       have hbw1 := hb0.trans hb1
       have R2 := (H2.out.below hbw1).mono hbw1.size
       clear E0 R1 hb0 hb1)
    | (at_builtin
       refine wpList_append_rg rfl (.tmp 16) (.tmp 17) 36 36 rfl w.heap.size 40 i0 (.agg #[.int .i32 0, .int .i32 0]) Try.underlying36 Try.underlying36 hi hz0 hz1 hz2 rfl v1 ([] ++ xs) rfl own1 A' cap' ys rfl R2 hF' (by simp; omega) hbw1.size ?_
       intro v2 w2 own2 hb2
       have hbw2 := hbw1.trans hb2
       clear own1 R2 hbw1 hb2))
  rw [List.nil_append] at own2
  obtain ⟨A2, c2, rfl, RS2⟩ := ownsRow_RS own2 (may_i32 HM.out)
  have HC := Lib.hid (points_any A2 c2 (xs ++ ys) w2 RS2 HM.out (by have := HHL.out; omega))
  have HB2 := Lib.hid hbw2
  clear own2 RS2 hbw2
  unfold PtsPost at HC
  go_wp2_with fail
  refine HC.out.mono ?_
  rintro e w3 ⟨l, A3, c3, rfl, hP, hll, hLS, hb3⟩
  have hbz := HB2.out.trans (hb3.mono HB2.out.size)
  have R1 := Lib.hid ((H1.out.below hbz).mono hbz.size)
  have R2 := Lib.hid ((H2.out.below hbz).mono hbz.size)
  have HP := Lib.hid hP
  have HPB := Lib.hid (pts_bounds hP HM.out)
  have HP0 := Lib.hid (pts_first hP HM.out)
  have HPL := Lib.hid (fun i p h1 h2 => pts_last hP HM.out (i := i) (p := p) h1 h2)
  have HLN := Lib.hid (pts_len hP)
  obtain ⟨n, hn⟩ : ∃ n, l.length = n := ⟨_, rfl⟩
  have HN := Lib.hid hn
  rw [hn] at hll HLN ⊢
  have HLS := Lib.hid hLS
  have HB := Lib.hid hbz
  have HLB := Lib.hid (show n ≤ 2 * (xs.length + ys.length) + 2 by rw [List.length_append] at hll; exact hll)
  have hnb : n ≤ 9000 := by have := HLB.out; have := HLL.out; omega
  clear hb3 HB2 hbz hP hn hLS hll H1 H2
  go_wp2
  go_loopw [8, 9] (fun v i wr => ∃ (k : Nat) (p : Int) (out : List Rng), i = .int .i64 k ∧ l[k]? = some p ∧ GatInv (gatF 0 xs ys) out p ∧ out.length ≤ k ∧ wr.ownsRow w3.heap.size 40 2 v out.length (cells2 out) ∧ Below w3.heap.size w3 wr) (fun _ i _ => n - (RowKit.intOf i).toNat)
  case atStart => exact ⟨0, 0, [], rfl, HP0.out, gat_start _, Nat.le_refl _, World.ownsRow_nil _ _ _ _, Below.refl _ _⟩
  case round =>
    obtain ⟨k, p, out, rfl, hp, I, hol, hown, hb⟩ := hrel
    have hkn : k < n := by have := (List.getElem?_eq_some_iff.1 hp).1; have := HN.out; omega
    have HIv := Lib.hid I
    have HOL := Lib.hid hol
    clear I
    by_cases hlt : k + 1 < n
    · obtain ⟨q, hq⟩ : ∃ q, l[k + 1]? = some q := ⟨l[k + 1]'(by have := HN.out; omega), List.getElem?_eq_getElem _⟩
      have hgap := pw_gap HP.out.s hp hq
      have hp0 := HPB.out p (List.mem_of_getElem? hp)
      have hq0 := HPB.out q (List.mem_of_getElem? hq)
      have HG := Lib.hid (fun r h1 h2 => gat_const (xs := xs) (ys := ys) 0 HP.out hgap.2 (r := r) h1 h2)
      obtain ⟨hpq, _⟩ := hgap
      obtain ⟨b, o, rfl, hbl, hcell⟩ := HLS.out.a
      have qp := (hb.cell (p := ⟨b, o + k, none⟩) hbl).trans (hcell k p hp)
      have qq := (hb.cell (p := ⟨b, o + (k + 1), none⟩) hbl).trans (hcell (k + 1) q hq)
      have HQ := Lib.hid hq
      have HP1 := Lib.hid hp
      clear hcell hp hq
      obtain ⟨p0, p1⟩ := hp0
      obtain ⟨q0, q1⟩ := hq0
      have i1 : (k : Int) + 1 < (n : Int) := by omega
      have i2 : (k : Int) < (n : Int) := by omega
      have i3 : (0 : Int) ≤ (k : Int) := by omega
      have C1 := Lib.hid (fun m => HI.out A cap xs p (by omega) (by omega) (wr.drewN m) ((R1.out.below (below_drewN hb m)).mono (below_drewN hb m).size))
      have C2 := Lib.hid (fun m => HI.out A' cap' ys p (by omega) (by omega) (wr.drewN m) ((R2.out.below (below_drewN hb m)).mono (below_drewN hb m).size))
      obtain ⟨X, hX⟩ : ∃ X, hasR xs p = X := ⟨_, rfl⟩
      obtain ⟨Y, hY⟩ : ∃ Y, hasR ys p = Y := ⟨_, rfl⟩
      rw [hX] at C1
      rw [hY] at C2
      have HF := Lib.hid (show gatF 0 xs ys p = wantR 0 X Y by rw [gatF, hX, hY])
      clear hX hY
      go_wp2_with fail
      go_quiet (first | (with_reducible refine Calls.quiet_of_same (C1.out _)) | (with_reducible refine Calls.quiet_of_same (C2.out _)))
      have hbq := below_drewN hb nq
      have howq : (wr.drewN nq).ownsRow w3.heap.size 40 2 u8 out.length (cells2 out) := hown
      have qp' : (wr.drewN nq).cell? ⟨b, o + k, none⟩ = some (.int .i32 p) := qp
      have qq' : (wr.drewN nq).cell? ⟨b, o + (k + 1), none⟩ = some (.int .i32 q) := qq
      generalize wr.drewN nq = W at *
      clear hb hown qp qq C1 C2
      cases X <;> cases Y
      · have HJ := Lib.hid (gat_skip HIv.out hpq HG.out (by rw [HF.out]; rfl))
        go_wp2
        go_roundw
        case rel => exact ⟨k + 1, q, out, by go_num, HQ.out, HJ.out, by have := HOL.out; omega, howq, hbq⟩
        case measure => simp [RowKit.intOf]; omega
      · have HFW := Lib.hid (show gatF 0 xs ys p = true by rw [HF.out]; rfl)
        have hqm : -2147483648 ≤ q - 1 := by omega
        have hqm2 : q - 1 ≤ 2147483647 := by omega
        have hol2 : out.length ≤ 9000 := by have := HOL.out; omega
        rcases List.eq_nil_or_concat out with rfl | ⟨pre, z, rfl⟩
        · have HJ := Lib.hid (gat_push0 HIv.out hpq p0 q1 HG.out HFW.out)
          rw [List.length_nil] at howq
          obtain ⟨A0, c0, hv0⟩ : ∃ A0 c0, u8 = .slice A0 0 c0 := by
            rcases howq.2 with ⟨h, _⟩ | ⟨g', c', _, h, _⟩
            · exact ⟨_, _, h⟩
            · exact ⟨_, _, h⟩
          subst hv0
          go_wp2_with fail
          go_quiet (fail)
          have qp'' : (W.drewN nq).cell? ⟨b, o + k, none⟩ = some (.int .i32 p) := qp'
          have qq'' : (W.drewN nq).cell? ⟨b, o + (k + 1), none⟩ = some (.int .i32 q) := qq'
          have how2 : (W.drewN nq).ownsRow w3.heap.size 40 2 (.slice A0 0 c0) 0 (cells2 []) := howq
          have hbq2 := below_drewN hbq nq
          generalize W.drewN nq = W2 at *
          clear qp' qq' howq hbq
          have own1 : W2.drew.ownsRow w3.heap.size 40 2 (.slice A0 0 c0) 0 (cells2 ([] : List Rng)) := how2
          have hb1 := hbq2.drew
          have hlt0 := own_block_lt own1
          have hs1 : w3.heap.size ≤ W2.drew.heap.size := hb1.size
          have own2 := own1.alloc (.cells #[.int .i32 p, .int .i32 (q - 1)] 40)
          have hnews := news2 W2.drew 40 (.int .i32 p) (.int .i32 (q - 1)) rfl rfl
          have h1c : ∀ u ∈ ([.int .i32 p, .int .i32 (q - 1)] : List Value), u.oneCell' = true := by intro u hu; simp at hu; rcases hu with rfl | rfl <;> rfl
          have hml : 0 + 1 ≤ maxLen := by unfold maxLen; omega
          have hsz : w3.heap.size ≤ (W2.drew.alloc (.cells #[.int .i32 p, .int .i32 (q - 1)] 40)).heap.size := by rw [World.size_alloc]; omega
          have hO := Lib.hid own2
          have hN2 := Lib.hid hnews
          have hby : (0 + 1) * 8 ≤ 140737488355328 := by omega
          have hQ2 := Lib.hid (And.intro h1c (And.intro hml (And.intro hsz (And.intro hb1 (And.intro hlt0 (And.intro hby (show 0 < 1 by omega)))))))
          have HEK := Lib.hid (IntWalk.i64_in ((k : Int) + 1) (by omega))
          have HEQ := Lib.hid (IntWalk.i32_in (q - 1) (by omega))
          have HTN := Lib.hid (show ((k : Int) + 1).toNat = k + 1 by omega)
          have i5 : (0 : Int) ≤ (k : Int) + 1 := by omega
          clear how2 own1 hbq2 own2 hnews h1c hml hsz hb1 hlt0 hby
          go_wp2_with fail
          have ek := HEK.out
          have eq := HEQ.out
          have et := HTN.out
          go_region_law (refine step_append_lies _ rfl (.tmp 92) (.tmp 104) 36 rfl w3.heap.size 40 i0 (.agg #[.int .i32 0, .int .i32 0]) 2 8 Try.underlying36 hi hz0 hz1 hz2 rfl (by decide) (.slice A0 0 c0) 0 (cells2 ([] : List Rng)) (by simp [Act.eval]) hO.out ⟨W2.heap.size, 0, none⟩ 1 1 [.int .i32 p, .int .i32 (q - 1)] (by simp [Act.eval]) rfl hN2.out hQ2.out.1 hQ2.out.2.2.2.2.2.2 hQ2.out.2.1 hQ2.out.2.2.2.2.2.1 hQ2.out.2.2.1 _ rfl ?_; intro g cap2 w4 own3 hgrow _ _)
          all_goals
            clear ek eq et
            have hbz : Below w3.heap.size w3 w4 := (hQ2.out.2.2.2.1.alloc hs1 _).grown hgrow hQ2.out.2.2.1 (fun k e => (hQ2.out.2.2.2.2.1 k e).1)
            have e3 : cells2 ([] : List Rng) ++ [.int .i32 p, .int .i32 (q - 1)] = cells2 (([] : List Rng) ++ [(p, q - 1)]) := by rw [cells2_snoc ([] : List Rng) (p, q - 1)]; rfl
            rw [e3] at own3
            have HO3 := Lib.hid own3
            clear e3 hgrow own3
            go_wp2
            go_roundw
            case rel => exact ⟨k + 1, q, ([] : List Rng) ++ [(p, q - 1)], by go_num, HQ.out, HJ.out, by have h := HOL.out; (try simp at h ⊢); (try omega), by rw [show (([] : List Rng) ++ [(p, q - 1)]).length = 0 + 1 from by simp]; exact HO3.out, hbz⟩
            case measure => simp [RowKit.intOf]; omega
        · rw [List.concat_eq_append] at *
          rw [List.length_append, List.length_singleton] at howq hol2
          obtain ⟨g', cap', rfl⟩ := ownsRow_succ howq
          obtain ⟨hzp, hzm⟩ := gat_hi HIv.out rfl
          have hzm := (may_iff _).1 hzm
          have HM1 := Lib.hid (fun e => gat_merge HIv.out hpq p0 q1 HG.out HFW.out e)
          have HM2 := Lib.hid (fun e => gat_push1 HIv.out hpq p0 q1 HG.out HFW.out e)
          obtain ⟨zl, zh⟩ := z
          simp only at hzp hzm
          obtain ⟨z1, z2, z3⟩ := hzm
          obtain ⟨d1, d2⟩ := cells2_get (pre ++ [(zl, zh)]) pre.length (zl, zh) (by simp)
          have t2 := (howq.cellAt (pre.length * 2 + 1) (by omega)).trans d2
          have HOW := Lib.hid howq
          have hgl := own_block_lt howq g' rfl
          clear d1 d2 howq
          obtain ⟨m, hm⟩ : ∃ m, pre.length = m := ⟨_, rfl⟩
          rw [hm] at t2 HOW hol2 ⊢
          have HMM := Lib.hid hm
          have j0 : (0 : Int) < (m : Int) + 1 := by omega
          have j1 : (0 : Int) ≤ (m : Int) := by omega
          clear hm
          by_cases c : zh + 1 = p
          · have HJ := Lib.hid (HM1.out c)
            have d : (zh + 1 == p) = true := by simp [c]
            have t3 := HOW.out.frozenAt (m * 2 + 1)
            clear c
            go_wp2_with fail
            go_quiet (fail)
            have qq'' : (W.drewN nq).cell? ⟨b, o + (k + 1), none⟩ = some (.int .i32 q) := qq'
            have t2' : (W.drewN nq).cell? ⟨g', m * 2 + 1, none⟩ = some (.int .i32 zh) := t2
            have t3' : (W.drewN nq).frozen? ⟨g', m * 2 + 1, none⟩ = false := t3
            have how2 : (W.drewN nq).ownsRow w3.heap.size 40 2 (.slice (some ⟨g', 0, none⟩) (m + 1) cap') (m + 1) (cells2 (pre ++ [(zl, zh)])) := HOW.out
            have hbq2 := below_drewN hbq nq
            have hst := how2.stored (m * 2 + 1) (.int .i32 (q - 1))
            generalize W.drewN nq = W2 at *
            have HS := Lib.hid (show (W2.setCell ⟨g', m * 2 + 1, none⟩ (.int .i32 (q - 1))).ownsRow w3.heap.size 40 2 (.slice (some ⟨g', 0, none⟩) (m + 1) cap') (m + 1) (cells2 (pre ++ [(zl, q - 1)])) from by
              have h := hst.1
              rw [← HMM.out, cells2_set, HMM.out] at h
              exact h)
            have HBZ := Lib.hid (hbq2.grown hst.2 hbq2.size (fun k e => by injection e with e; omega))
            clear qp' qq' t2 t3 how2 hbq hst
            go_wp2
            go_roundw
            case rel => exact ⟨k + 1, q, pre ++ [(zl, q - 1)], by go_num, HQ.out, HJ.out, by have h := HOL.out; simp [HMM.out] at h ⊢; omega, by rw [List.length_append, HMM.out]; exact HS.out, HBZ.out⟩
            case measure => simp [RowKit.intOf]; omega
          · have HJ := Lib.hid (HM2.out c)
            have d : (zh + 1 == p) = false := by simp [c]
            clear c
            go_wp2_with fail
            go_quiet (fail)
            have qp'' : (W.drewN nq).cell? ⟨b, o + k, none⟩ = some (.int .i32 p) := qp'
            have qq'' : (W.drewN nq).cell? ⟨b, o + (k + 1), none⟩ = some (.int .i32 q) := qq'
            have how2 : (W.drewN nq).ownsRow w3.heap.size 40 2 (.slice (some ⟨g', 0, none⟩) (m + 1) cap') (m + 1) (cells2 (pre ++ [(zl, zh)])) := HOW.out
            have hbq2 := below_drewN hbq nq
            generalize W.drewN nq = W2 at *
            clear qp' qq' t2 hbq
            have own1 : W2.drew.ownsRow w3.heap.size 40 2 (.slice (some ⟨g', 0, none⟩) (m + 1) cap') (m + 1) (cells2 (pre ++ [(zl, zh)])) := how2
            have hb1 := hbq2.drew
            have hlt0 := own_block_lt own1
            have hs1 : w3.heap.size ≤ W2.drew.heap.size := hb1.size
            have own2 := own1.alloc (.cells #[.int .i32 p, .int .i32 (q - 1)] 40)
            have hnews := news2 W2.drew 40 (.int .i32 p) (.int .i32 (q - 1)) rfl rfl
            have h1c : ∀ u ∈ ([.int .i32 p, .int .i32 (q - 1)] : List Value), u.oneCell' = true := by intro u hu; simp at hu; rcases hu with rfl | rfl <;> rfl
            have hml : (m + 1) + 1 ≤ maxLen := by unfold maxLen; omega
            have hsz : w3.heap.size ≤ (W2.drew.alloc (.cells #[.int .i32 p, .int .i32 (q - 1)] 40)).heap.size := by rw [World.size_alloc]; omega
            have hO := Lib.hid own2
            have hN2 := Lib.hid hnews
            have hby : ((m + 1) + 1) * 8 ≤ 140737488355328 := by omega
            have hQ2 := Lib.hid (And.intro h1c (And.intro hml (And.intro hsz (And.intro hb1 (And.intro hlt0 (And.intro hby (show 0 < 1 by omega)))))))
            have HEK := Lib.hid (IntWalk.i64_in ((k : Int) + 1) (by omega))
            have HEQ := Lib.hid (IntWalk.i32_in (q - 1) (by omega))
            have HTN := Lib.hid (show ((k : Int) + 1).toNat = k + 1 by omega)
            have i5 : (0 : Int) ≤ (k : Int) + 1 := by omega
            clear how2 own1 hbq2 own2 hnews h1c hml hsz hb1 hlt0 hby
            go_wp2_with fail
            have ek := HEK.out
            have eq := HEQ.out
            have et := HTN.out
            go_region_law (refine step_append_lies _ rfl (.tmp 92) (.tmp 104) 36 rfl w3.heap.size 40 i0 (.agg #[.int .i32 0, .int .i32 0]) 2 8 Try.underlying36 hi hz0 hz1 hz2 rfl (by decide) (.slice (some ⟨g', 0, none⟩) (m + 1) cap') (m + 1) (cells2 (pre ++ [(zl, zh)])) (by simp [Act.eval]) hO.out ⟨W2.heap.size, 0, none⟩ 1 1 [.int .i32 p, .int .i32 (q - 1)] (by simp [Act.eval]) rfl hN2.out hQ2.out.1 hQ2.out.2.2.2.2.2.2 hQ2.out.2.1 hQ2.out.2.2.2.2.2.1 hQ2.out.2.2.1 _ rfl ?_; intro g cap2 w4 own3 hgrow _ _)
            all_goals
              clear ek eq et
              have hbz : Below w3.heap.size w3 w4 := (hQ2.out.2.2.2.1.alloc hs1 _).grown hgrow hQ2.out.2.2.1 (fun k e => (hQ2.out.2.2.2.2.1 k e).1)
              have e3 : cells2 (pre ++ [(zl, zh)]) ++ [.int .i32 p, .int .i32 (q - 1)] = cells2 ((pre ++ [(zl, zh)]) ++ [(p, q - 1)]) := by rw [cells2_snoc (pre ++ [(zl, zh)]) (p, q - 1)]; rfl
              rw [e3] at own3
              have HO3 := Lib.hid own3
              clear e3 hgrow own3
              go_wp2
              go_roundw
              case rel => exact ⟨k + 1, q, (pre ++ [(zl, zh)]) ++ [(p, q - 1)], by go_num, HQ.out, HJ.out, by have h := HOL.out; (try simp [HMM.out] at h ⊢); (try omega), by rw [show ((pre ++ [(zl, zh)]) ++ [(p, q - 1)]).length = (m + 1) + 1 from by simp [HMM.out]]; exact HO3.out, hbz⟩
              case measure => simp [RowKit.intOf]; omega
      · have HFW := Lib.hid (show gatF 0 xs ys p = true by rw [HF.out]; rfl)
        have hqm : -2147483648 ≤ q - 1 := by omega
        have hqm2 : q - 1 ≤ 2147483647 := by omega
        have hol2 : out.length ≤ 9000 := by have := HOL.out; omega
        rcases List.eq_nil_or_concat out with rfl | ⟨pre, z, rfl⟩
        · have HJ := Lib.hid (gat_push0 HIv.out hpq p0 q1 HG.out HFW.out)
          rw [List.length_nil] at howq
          obtain ⟨A0, c0, hv0⟩ : ∃ A0 c0, u8 = .slice A0 0 c0 := by
            rcases howq.2 with ⟨h, _⟩ | ⟨g', c', _, h, _⟩
            · exact ⟨_, _, h⟩
            · exact ⟨_, _, h⟩
          subst hv0
          go_wp2_with fail
          go_quiet (fail)
          have qp'' : (W.drewN nq).cell? ⟨b, o + k, none⟩ = some (.int .i32 p) := qp'
          have qq'' : (W.drewN nq).cell? ⟨b, o + (k + 1), none⟩ = some (.int .i32 q) := qq'
          have how2 : (W.drewN nq).ownsRow w3.heap.size 40 2 (.slice A0 0 c0) 0 (cells2 []) := howq
          have hbq2 := below_drewN hbq nq
          generalize W.drewN nq = W2 at *
          clear qp' qq' howq hbq
          have own1 : W2.drew.ownsRow w3.heap.size 40 2 (.slice A0 0 c0) 0 (cells2 ([] : List Rng)) := how2
          have hb1 := hbq2.drew
          have hlt0 := own_block_lt own1
          have hs1 : w3.heap.size ≤ W2.drew.heap.size := hb1.size
          have own2 := own1.alloc (.cells #[.int .i32 p, .int .i32 (q - 1)] 40)
          have hnews := news2 W2.drew 40 (.int .i32 p) (.int .i32 (q - 1)) rfl rfl
          have h1c : ∀ u ∈ ([.int .i32 p, .int .i32 (q - 1)] : List Value), u.oneCell' = true := by intro u hu; simp at hu; rcases hu with rfl | rfl <;> rfl
          have hml : 0 + 1 ≤ maxLen := by unfold maxLen; omega
          have hsz : w3.heap.size ≤ (W2.drew.alloc (.cells #[.int .i32 p, .int .i32 (q - 1)] 40)).heap.size := by rw [World.size_alloc]; omega
          have hO := Lib.hid own2
          have hN2 := Lib.hid hnews
          have hby : (0 + 1) * 8 ≤ 140737488355328 := by omega
          have hQ2 := Lib.hid (And.intro h1c (And.intro hml (And.intro hsz (And.intro hb1 (And.intro hlt0 (And.intro hby (show 0 < 1 by omega)))))))
          have HEK := Lib.hid (IntWalk.i64_in ((k : Int) + 1) (by omega))
          have HEQ := Lib.hid (IntWalk.i32_in (q - 1) (by omega))
          have HTN := Lib.hid (show ((k : Int) + 1).toNat = k + 1 by omega)
          have i5 : (0 : Int) ≤ (k : Int) + 1 := by omega
          clear how2 own1 hbq2 own2 hnews h1c hml hsz hb1 hlt0 hby
          go_wp2_with fail
          have ek := HEK.out
          have eq := HEQ.out
          have et := HTN.out
          go_region_law (refine step_append_lies _ rfl (.tmp 92) (.tmp 104) 36 rfl w3.heap.size 40 i0 (.agg #[.int .i32 0, .int .i32 0]) 2 8 Try.underlying36 hi hz0 hz1 hz2 rfl (by decide) (.slice A0 0 c0) 0 (cells2 ([] : List Rng)) (by simp [Act.eval]) hO.out ⟨W2.heap.size, 0, none⟩ 1 1 [.int .i32 p, .int .i32 (q - 1)] (by simp [Act.eval]) rfl hN2.out hQ2.out.1 hQ2.out.2.2.2.2.2.2 hQ2.out.2.1 hQ2.out.2.2.2.2.2.1 hQ2.out.2.2.1 _ rfl ?_; intro g cap2 w4 own3 hgrow _ _)
          all_goals
            clear ek eq et
            have hbz : Below w3.heap.size w3 w4 := (hQ2.out.2.2.2.1.alloc hs1 _).grown hgrow hQ2.out.2.2.1 (fun k e => (hQ2.out.2.2.2.2.1 k e).1)
            have e3 : cells2 ([] : List Rng) ++ [.int .i32 p, .int .i32 (q - 1)] = cells2 (([] : List Rng) ++ [(p, q - 1)]) := by rw [cells2_snoc ([] : List Rng) (p, q - 1)]; rfl
            rw [e3] at own3
            have HO3 := Lib.hid own3
            clear e3 hgrow own3
            go_wp2
            go_roundw
            case rel => exact ⟨k + 1, q, ([] : List Rng) ++ [(p, q - 1)], by go_num, HQ.out, HJ.out, by have h := HOL.out; (try simp at h ⊢); (try omega), by rw [show (([] : List Rng) ++ [(p, q - 1)]).length = 0 + 1 from by simp]; exact HO3.out, hbz⟩
            case measure => simp [RowKit.intOf]; omega
        · rw [List.concat_eq_append] at *
          rw [List.length_append, List.length_singleton] at howq hol2
          obtain ⟨g', cap', rfl⟩ := ownsRow_succ howq
          obtain ⟨hzp, hzm⟩ := gat_hi HIv.out rfl
          have hzm := (may_iff _).1 hzm
          have HM1 := Lib.hid (fun e => gat_merge HIv.out hpq p0 q1 HG.out HFW.out e)
          have HM2 := Lib.hid (fun e => gat_push1 HIv.out hpq p0 q1 HG.out HFW.out e)
          obtain ⟨zl, zh⟩ := z
          simp only at hzp hzm
          obtain ⟨z1, z2, z3⟩ := hzm
          obtain ⟨d1, d2⟩ := cells2_get (pre ++ [(zl, zh)]) pre.length (zl, zh) (by simp)
          have t2 := (howq.cellAt (pre.length * 2 + 1) (by omega)).trans d2
          have HOW := Lib.hid howq
          have hgl := own_block_lt howq g' rfl
          clear d1 d2 howq
          obtain ⟨m, hm⟩ : ∃ m, pre.length = m := ⟨_, rfl⟩
          rw [hm] at t2 HOW hol2 ⊢
          have HMM := Lib.hid hm
          have j0 : (0 : Int) < (m : Int) + 1 := by omega
          have j1 : (0 : Int) ≤ (m : Int) := by omega
          clear hm
          by_cases c : zh + 1 = p
          · have HJ := Lib.hid (HM1.out c)
            have d : (zh + 1 == p) = true := by simp [c]
            have t3 := HOW.out.frozenAt (m * 2 + 1)
            clear c
            go_wp2_with fail
            go_quiet (fail)
            have qq'' : (W.drewN nq).cell? ⟨b, o + (k + 1), none⟩ = some (.int .i32 q) := qq'
            have t2' : (W.drewN nq).cell? ⟨g', m * 2 + 1, none⟩ = some (.int .i32 zh) := t2
            have t3' : (W.drewN nq).frozen? ⟨g', m * 2 + 1, none⟩ = false := t3
            have how2 : (W.drewN nq).ownsRow w3.heap.size 40 2 (.slice (some ⟨g', 0, none⟩) (m + 1) cap') (m + 1) (cells2 (pre ++ [(zl, zh)])) := HOW.out
            have hbq2 := below_drewN hbq nq
            have hst := how2.stored (m * 2 + 1) (.int .i32 (q - 1))
            generalize W.drewN nq = W2 at *
            have HS := Lib.hid (show (W2.setCell ⟨g', m * 2 + 1, none⟩ (.int .i32 (q - 1))).ownsRow w3.heap.size 40 2 (.slice (some ⟨g', 0, none⟩) (m + 1) cap') (m + 1) (cells2 (pre ++ [(zl, q - 1)])) from by
              have h := hst.1
              rw [← HMM.out, cells2_set, HMM.out] at h
              exact h)
            have HBZ := Lib.hid (hbq2.grown hst.2 hbq2.size (fun k e => by injection e with e; omega))
            clear qp' qq' t2 t3 how2 hbq hst
            go_wp2
            go_roundw
            case rel => exact ⟨k + 1, q, pre ++ [(zl, q - 1)], by go_num, HQ.out, HJ.out, by have h := HOL.out; simp [HMM.out] at h ⊢; omega, by rw [List.length_append, HMM.out]; exact HS.out, HBZ.out⟩
            case measure => simp [RowKit.intOf]; omega
          · have HJ := Lib.hid (HM2.out c)
            have d : (zh + 1 == p) = false := by simp [c]
            clear c
            go_wp2_with fail
            go_quiet (fail)
            have qp'' : (W.drewN nq).cell? ⟨b, o + k, none⟩ = some (.int .i32 p) := qp'
            have qq'' : (W.drewN nq).cell? ⟨b, o + (k + 1), none⟩ = some (.int .i32 q) := qq'
            have how2 : (W.drewN nq).ownsRow w3.heap.size 40 2 (.slice (some ⟨g', 0, none⟩) (m + 1) cap') (m + 1) (cells2 (pre ++ [(zl, zh)])) := HOW.out
            have hbq2 := below_drewN hbq nq
            generalize W.drewN nq = W2 at *
            clear qp' qq' t2 hbq
            have own1 : W2.drew.ownsRow w3.heap.size 40 2 (.slice (some ⟨g', 0, none⟩) (m + 1) cap') (m + 1) (cells2 (pre ++ [(zl, zh)])) := how2
            have hb1 := hbq2.drew
            have hlt0 := own_block_lt own1
            have hs1 : w3.heap.size ≤ W2.drew.heap.size := hb1.size
            have own2 := own1.alloc (.cells #[.int .i32 p, .int .i32 (q - 1)] 40)
            have hnews := news2 W2.drew 40 (.int .i32 p) (.int .i32 (q - 1)) rfl rfl
            have h1c : ∀ u ∈ ([.int .i32 p, .int .i32 (q - 1)] : List Value), u.oneCell' = true := by intro u hu; simp at hu; rcases hu with rfl | rfl <;> rfl
            have hml : (m + 1) + 1 ≤ maxLen := by unfold maxLen; omega
            have hsz : w3.heap.size ≤ (W2.drew.alloc (.cells #[.int .i32 p, .int .i32 (q - 1)] 40)).heap.size := by rw [World.size_alloc]; omega
            have hO := Lib.hid own2
            have hN2 := Lib.hid hnews
            have hby : ((m + 1) + 1) * 8 ≤ 140737488355328 := by omega
            have hQ2 := Lib.hid (And.intro h1c (And.intro hml (And.intro hsz (And.intro hb1 (And.intro hlt0 (And.intro hby (show 0 < 1 by omega)))))))
            have HEK := Lib.hid (IntWalk.i64_in ((k : Int) + 1) (by omega))
            have HEQ := Lib.hid (IntWalk.i32_in (q - 1) (by omega))
            have HTN := Lib.hid (show ((k : Int) + 1).toNat = k + 1 by omega)
            have i5 : (0 : Int) ≤ (k : Int) + 1 := by omega
            clear how2 own1 hbq2 own2 hnews h1c hml hsz hb1 hlt0 hby
            go_wp2_with fail
            have ek := HEK.out
            have eq := HEQ.out
            have et := HTN.out
            go_region_law (refine step_append_lies _ rfl (.tmp 92) (.tmp 104) 36 rfl w3.heap.size 40 i0 (.agg #[.int .i32 0, .int .i32 0]) 2 8 Try.underlying36 hi hz0 hz1 hz2 rfl (by decide) (.slice (some ⟨g', 0, none⟩) (m + 1) cap') (m + 1) (cells2 (pre ++ [(zl, zh)])) (by simp [Act.eval]) hO.out ⟨W2.heap.size, 0, none⟩ 1 1 [.int .i32 p, .int .i32 (q - 1)] (by simp [Act.eval]) rfl hN2.out hQ2.out.1 hQ2.out.2.2.2.2.2.2 hQ2.out.2.1 hQ2.out.2.2.2.2.2.1 hQ2.out.2.2.1 _ rfl ?_; intro g cap2 w4 own3 hgrow _ _)
            all_goals
              clear ek eq et
              have hbz : Below w3.heap.size w3 w4 := (hQ2.out.2.2.2.1.alloc hs1 _).grown hgrow hQ2.out.2.2.1 (fun k e => (hQ2.out.2.2.2.2.1 k e).1)
              have e3 : cells2 (pre ++ [(zl, zh)]) ++ [.int .i32 p, .int .i32 (q - 1)] = cells2 ((pre ++ [(zl, zh)]) ++ [(p, q - 1)]) := by rw [cells2_snoc (pre ++ [(zl, zh)]) (p, q - 1)]; rfl
              rw [e3] at own3
              have HO3 := Lib.hid own3
              clear e3 hgrow own3
              go_wp2
              go_roundw
              case rel => exact ⟨k + 1, q, (pre ++ [(zl, zh)]) ++ [(p, q - 1)], by go_num, HQ.out, HJ.out, by have h := HOL.out; (try simp [HMM.out] at h ⊢); (try omega), by rw [show ((pre ++ [(zl, zh)]) ++ [(p, q - 1)]).length = (m + 1) + 1 from by simp [HMM.out]]; exact HO3.out, hbz⟩
              case measure => simp [RowKit.intOf]; omega
      · have HFW := Lib.hid (show gatF 0 xs ys p = true by rw [HF.out]; rfl)
        have hqm : -2147483648 ≤ q - 1 := by omega
        have hqm2 : q - 1 ≤ 2147483647 := by omega
        have hol2 : out.length ≤ 9000 := by have := HOL.out; omega
        rcases List.eq_nil_or_concat out with rfl | ⟨pre, z, rfl⟩
        · have HJ := Lib.hid (gat_push0 HIv.out hpq p0 q1 HG.out HFW.out)
          rw [List.length_nil] at howq
          obtain ⟨A0, c0, hv0⟩ : ∃ A0 c0, u8 = .slice A0 0 c0 := by
            rcases howq.2 with ⟨h, _⟩ | ⟨g', c', _, h, _⟩
            · exact ⟨_, _, h⟩
            · exact ⟨_, _, h⟩
          subst hv0
          go_wp2_with fail
          go_quiet (fail)
          have qp'' : (W.drewN nq).cell? ⟨b, o + k, none⟩ = some (.int .i32 p) := qp'
          have qq'' : (W.drewN nq).cell? ⟨b, o + (k + 1), none⟩ = some (.int .i32 q) := qq'
          have how2 : (W.drewN nq).ownsRow w3.heap.size 40 2 (.slice A0 0 c0) 0 (cells2 []) := howq
          have hbq2 := below_drewN hbq nq
          generalize W.drewN nq = W2 at *
          clear qp' qq' howq hbq
          have own1 : W2.drew.ownsRow w3.heap.size 40 2 (.slice A0 0 c0) 0 (cells2 ([] : List Rng)) := how2
          have hb1 := hbq2.drew
          have hlt0 := own_block_lt own1
          have hs1 : w3.heap.size ≤ W2.drew.heap.size := hb1.size
          have own2 := own1.alloc (.cells #[.int .i32 p, .int .i32 (q - 1)] 40)
          have hnews := news2 W2.drew 40 (.int .i32 p) (.int .i32 (q - 1)) rfl rfl
          have h1c : ∀ u ∈ ([.int .i32 p, .int .i32 (q - 1)] : List Value), u.oneCell' = true := by intro u hu; simp at hu; rcases hu with rfl | rfl <;> rfl
          have hml : 0 + 1 ≤ maxLen := by unfold maxLen; omega
          have hsz : w3.heap.size ≤ (W2.drew.alloc (.cells #[.int .i32 p, .int .i32 (q - 1)] 40)).heap.size := by rw [World.size_alloc]; omega
          have hO := Lib.hid own2
          have hN2 := Lib.hid hnews
          have hby : (0 + 1) * 8 ≤ 140737488355328 := by omega
          have hQ2 := Lib.hid (And.intro h1c (And.intro hml (And.intro hsz (And.intro hb1 (And.intro hlt0 (And.intro hby (show 0 < 1 by omega)))))))
          have HEK := Lib.hid (IntWalk.i64_in ((k : Int) + 1) (by omega))
          have HEQ := Lib.hid (IntWalk.i32_in (q - 1) (by omega))
          have HTN := Lib.hid (show ((k : Int) + 1).toNat = k + 1 by omega)
          have i5 : (0 : Int) ≤ (k : Int) + 1 := by omega
          clear how2 own1 hbq2 own2 hnews h1c hml hsz hb1 hlt0 hby
          go_wp2_with fail
          have ek := HEK.out
          have eq := HEQ.out
          have et := HTN.out
          go_region_law (refine step_append_lies _ rfl (.tmp 92) (.tmp 104) 36 rfl w3.heap.size 40 i0 (.agg #[.int .i32 0, .int .i32 0]) 2 8 Try.underlying36 hi hz0 hz1 hz2 rfl (by decide) (.slice A0 0 c0) 0 (cells2 ([] : List Rng)) (by simp [Act.eval]) hO.out ⟨W2.heap.size, 0, none⟩ 1 1 [.int .i32 p, .int .i32 (q - 1)] (by simp [Act.eval]) rfl hN2.out hQ2.out.1 hQ2.out.2.2.2.2.2.2 hQ2.out.2.1 hQ2.out.2.2.2.2.2.1 hQ2.out.2.2.1 _ rfl ?_; intro g cap2 w4 own3 hgrow _ _)
          all_goals
            clear ek eq et
            have hbz : Below w3.heap.size w3 w4 := (hQ2.out.2.2.2.1.alloc hs1 _).grown hgrow hQ2.out.2.2.1 (fun k e => (hQ2.out.2.2.2.2.1 k e).1)
            have e3 : cells2 ([] : List Rng) ++ [.int .i32 p, .int .i32 (q - 1)] = cells2 (([] : List Rng) ++ [(p, q - 1)]) := by rw [cells2_snoc ([] : List Rng) (p, q - 1)]; rfl
            rw [e3] at own3
            have HO3 := Lib.hid own3
            clear e3 hgrow own3
            go_wp2
            go_roundw
            case rel => exact ⟨k + 1, q, ([] : List Rng) ++ [(p, q - 1)], by go_num, HQ.out, HJ.out, by have h := HOL.out; (try simp at h ⊢); (try omega), by rw [show (([] : List Rng) ++ [(p, q - 1)]).length = 0 + 1 from by simp]; exact HO3.out, hbz⟩
            case measure => simp [RowKit.intOf]; omega
        · rw [List.concat_eq_append] at *
          rw [List.length_append, List.length_singleton] at howq hol2
          obtain ⟨g', cap', rfl⟩ := ownsRow_succ howq
          obtain ⟨hzp, hzm⟩ := gat_hi HIv.out rfl
          have hzm := (may_iff _).1 hzm
          have HM1 := Lib.hid (fun e => gat_merge HIv.out hpq p0 q1 HG.out HFW.out e)
          have HM2 := Lib.hid (fun e => gat_push1 HIv.out hpq p0 q1 HG.out HFW.out e)
          obtain ⟨zl, zh⟩ := z
          simp only at hzp hzm
          obtain ⟨z1, z2, z3⟩ := hzm
          obtain ⟨d1, d2⟩ := cells2_get (pre ++ [(zl, zh)]) pre.length (zl, zh) (by simp)
          have t2 := (howq.cellAt (pre.length * 2 + 1) (by omega)).trans d2
          have HOW := Lib.hid howq
          have hgl := own_block_lt howq g' rfl
          clear d1 d2 howq
          obtain ⟨m, hm⟩ : ∃ m, pre.length = m := ⟨_, rfl⟩
          rw [hm] at t2 HOW hol2 ⊢
          have HMM := Lib.hid hm
          have j0 : (0 : Int) < (m : Int) + 1 := by omega
          have j1 : (0 : Int) ≤ (m : Int) := by omega
          clear hm
          by_cases c : zh + 1 = p
          · have HJ := Lib.hid (HM1.out c)
            have d : (zh + 1 == p) = true := by simp [c]
            have t3 := HOW.out.frozenAt (m * 2 + 1)
            clear c
            go_wp2_with fail
            go_quiet (fail)
            have qq'' : (W.drewN nq).cell? ⟨b, o + (k + 1), none⟩ = some (.int .i32 q) := qq'
            have t2' : (W.drewN nq).cell? ⟨g', m * 2 + 1, none⟩ = some (.int .i32 zh) := t2
            have t3' : (W.drewN nq).frozen? ⟨g', m * 2 + 1, none⟩ = false := t3
            have how2 : (W.drewN nq).ownsRow w3.heap.size 40 2 (.slice (some ⟨g', 0, none⟩) (m + 1) cap') (m + 1) (cells2 (pre ++ [(zl, zh)])) := HOW.out
            have hbq2 := below_drewN hbq nq
            have hst := how2.stored (m * 2 + 1) (.int .i32 (q - 1))
            generalize W.drewN nq = W2 at *
            have HS := Lib.hid (show (W2.setCell ⟨g', m * 2 + 1, none⟩ (.int .i32 (q - 1))).ownsRow w3.heap.size 40 2 (.slice (some ⟨g', 0, none⟩) (m + 1) cap') (m + 1) (cells2 (pre ++ [(zl, q - 1)])) from by
              have h := hst.1
              rw [← HMM.out, cells2_set, HMM.out] at h
              exact h)
            have HBZ := Lib.hid (hbq2.grown hst.2 hbq2.size (fun k e => by injection e with e; omega))
            clear qp' qq' t2 t3 how2 hbq hst
            go_wp2
            go_roundw
            case rel => exact ⟨k + 1, q, pre ++ [(zl, q - 1)], by go_num, HQ.out, HJ.out, by have h := HOL.out; simp [HMM.out] at h ⊢; omega, by rw [List.length_append, HMM.out]; exact HS.out, HBZ.out⟩
            case measure => simp [RowKit.intOf]; omega
          · have HJ := Lib.hid (HM2.out c)
            have d : (zh + 1 == p) = false := by simp [c]
            clear c
            go_wp2_with fail
            go_quiet (fail)
            have qp'' : (W.drewN nq).cell? ⟨b, o + k, none⟩ = some (.int .i32 p) := qp'
            have qq'' : (W.drewN nq).cell? ⟨b, o + (k + 1), none⟩ = some (.int .i32 q) := qq'
            have how2 : (W.drewN nq).ownsRow w3.heap.size 40 2 (.slice (some ⟨g', 0, none⟩) (m + 1) cap') (m + 1) (cells2 (pre ++ [(zl, zh)])) := HOW.out
            have hbq2 := below_drewN hbq nq
            generalize W.drewN nq = W2 at *
            clear qp' qq' t2 hbq
            have own1 : W2.drew.ownsRow w3.heap.size 40 2 (.slice (some ⟨g', 0, none⟩) (m + 1) cap') (m + 1) (cells2 (pre ++ [(zl, zh)])) := how2
            have hb1 := hbq2.drew
            have hlt0 := own_block_lt own1
            have hs1 : w3.heap.size ≤ W2.drew.heap.size := hb1.size
            have own2 := own1.alloc (.cells #[.int .i32 p, .int .i32 (q - 1)] 40)
            have hnews := news2 W2.drew 40 (.int .i32 p) (.int .i32 (q - 1)) rfl rfl
            have h1c : ∀ u ∈ ([.int .i32 p, .int .i32 (q - 1)] : List Value), u.oneCell' = true := by intro u hu; simp at hu; rcases hu with rfl | rfl <;> rfl
            have hml : (m + 1) + 1 ≤ maxLen := by unfold maxLen; omega
            have hsz : w3.heap.size ≤ (W2.drew.alloc (.cells #[.int .i32 p, .int .i32 (q - 1)] 40)).heap.size := by rw [World.size_alloc]; omega
            have hO := Lib.hid own2
            have hN2 := Lib.hid hnews
            have hby : ((m + 1) + 1) * 8 ≤ 140737488355328 := by omega
            have hQ2 := Lib.hid (And.intro h1c (And.intro hml (And.intro hsz (And.intro hb1 (And.intro hlt0 (And.intro hby (show 0 < 1 by omega)))))))
            have HEK := Lib.hid (IntWalk.i64_in ((k : Int) + 1) (by omega))
            have HEQ := Lib.hid (IntWalk.i32_in (q - 1) (by omega))
            have HTN := Lib.hid (show ((k : Int) + 1).toNat = k + 1 by omega)
            have i5 : (0 : Int) ≤ (k : Int) + 1 := by omega
            clear how2 own1 hbq2 own2 hnews h1c hml hsz hb1 hlt0 hby
            go_wp2_with fail
            have ek := HEK.out
            have eq := HEQ.out
            have et := HTN.out
            go_region_law (refine step_append_lies _ rfl (.tmp 92) (.tmp 104) 36 rfl w3.heap.size 40 i0 (.agg #[.int .i32 0, .int .i32 0]) 2 8 Try.underlying36 hi hz0 hz1 hz2 rfl (by decide) (.slice (some ⟨g', 0, none⟩) (m + 1) cap') (m + 1) (cells2 (pre ++ [(zl, zh)])) (by simp [Act.eval]) hO.out ⟨W2.heap.size, 0, none⟩ 1 1 [.int .i32 p, .int .i32 (q - 1)] (by simp [Act.eval]) rfl hN2.out hQ2.out.1 hQ2.out.2.2.2.2.2.2 hQ2.out.2.1 hQ2.out.2.2.2.2.2.1 hQ2.out.2.2.1 _ rfl ?_; intro g cap2 w4 own3 hgrow _ _)
            all_goals
              clear ek eq et
              have hbz : Below w3.heap.size w3 w4 := (hQ2.out.2.2.2.1.alloc hs1 _).grown hgrow hQ2.out.2.2.1 (fun k e => (hQ2.out.2.2.2.2.1 k e).1)
              have e3 : cells2 (pre ++ [(zl, zh)]) ++ [.int .i32 p, .int .i32 (q - 1)] = cells2 ((pre ++ [(zl, zh)]) ++ [(p, q - 1)]) := by rw [cells2_snoc (pre ++ [(zl, zh)]) (p, q - 1)]; rfl
              rw [e3] at own3
              have HO3 := Lib.hid own3
              clear e3 hgrow own3
              go_wp2
              go_roundw
              case rel => exact ⟨k + 1, q, (pre ++ [(zl, zh)]) ++ [(p, q - 1)], by go_num, HQ.out, HJ.out, by have h := HOL.out; (try simp [HMM.out] at h ⊢); (try omega), by rw [show ((pre ++ [(zl, zh)]) ++ [(p, q - 1)]).length = (m + 1) + 1 from by simp [HMM.out]]; exact HO3.out, hbz⟩
              case measure => simp [RowKit.intOf]; omega
    · have hkn2 : n = k + 1 := by omega
      have hpe := HPL.out k p hp (by have := HN.out; omega)
      subst hpe
      have hm := HIv.out.m
      have HMm := Lib.hid hm
      clear hm
      have i1 : ¬ ((k : Int) + 1 < (n : Int)) := by omega
      have i4 : decide ((k : Int) + 1 < (n : Int)) = false := by simpa using i1
      subst hkn2
      go_wp2
      go_ret
      exact ⟨out, HIv.out.r, HMm.out, by have := HLB.out; omega, u8, rfl, own_mono hown HB.out.size, HB.out.trans (hb.mono HB.out.size)⟩
end Go.Proofs.Ytphhdkffnboboaa

