/-
  Contracts: virguleref02.gather at its kind 3.
  Contracts: virguleref02.Make, Union, Cut, Minus, Not.
  The classes as plain mathematics: the rows of prop, the lists of virguleref04; that they tell the same class of each number.
  The sets of the classes as plain mathematics: the parts of the rows, class by class; which numbers they have.
-/
import Derived.Test.YtphhdkffnboboaaPsj
import Derived.Test.YtphhdkffnboboaaPsf
import Derived.Test.YtphhdkffnboboaaPsl
import Derived.Test.YtphhdkffnboboaaPsc
import Derived.Test.YtphhdkffnboboaaPsa
namespace Go.Proofs.Ytphhdkffnboboaa
open Go.RowKit Go.Shelf
open Go.Lib

set_option maxHeartbeats 16000000 in
set_option maxRecDepth 100000 in
theorem gather3_any (A : Option Addr) (cap : Nat) (xs : List Rng) (A' : Option Addr) (cap' : Nat) (ys : List Rng) (w : World) (h : RS w w.heap.size A cap xs) (hF : Fw A cap) (h' : RS w w.heap.size A' cap' ys) (hF' : Fw A' cap')
    (hm : ∀ x ∈ xs, may x = true) (hm' : ∀ x ∈ ys, may x = true) (hl : xs.length ≤ 2000) (hl' : ys.length ≤ 2000) :
    Calls Try.prog 74 #[.slice A xs.length cap, .slice A' ys.length cap', .int .i64 3] w (GatPost 3 xs ys w) := by
  obtain ⟨i0, hi, hz0, hz1, hz2⟩ := info_parts Try.info40
  have HM := Lib.hid (show ∀ x ∈ xs ++ ys, may x = true from fun x hx => (List.mem_append.1 hx).elim (hm x) (hm' x))
  have H1 := Lib.hid h
  have H2 := Lib.hid h'
  have HI := Lib.hid in_any
  have hlen : (xs ++ ys).length ≤ 4000 := by rw [List.length_append]; omega
  have E0 := own_empty2 w w.heap.size 40 (Nat.le_refl _)
  have hb0 := below_new w (.cells #[] 40)
  have R1 := (h.below hb0).mono hb0.size
  have HLL := Lib.hid (And.intro hl hl')
  have HHL := Lib.hid hlen
  clear h h' hm hm' hlen
  unfold GatPost
  go_enter Try.func74, Try.ntmps74
  go_wp2_with (first
    | (at_builtin
       refine wpList_append_rg rfl (.tmp 14) (.tmp 15) 36 36 rfl w.heap.size 40 i0 (.agg #[.int .i32 0, .int .i32 0]) Try.underlying36 Try.underlying36 hi hz0 hz1 hz2 rfl _ [] rfl E0 A cap xs rfl R1 hF (by simp; omega) hb0.size ?_
       intro v1 w1 own1 hb1
       have hbw1 := hb0.trans hb1
       have R2 := (H2.out.below hbw1).mono hbw1.size
       clear E0 R1 hb0 hb1)
    | (at_builtin
       refine wpList_append_rg rfl (.tmp 16) (.tmp 17) 36 36 rfl w.heap.size 40 i0 (.agg #[.int .i32 0, .int .i32 0]) Try.underlying36 Try.underlying36 hi hz0 hz1 hz2 rfl v1 ([] ++ xs) rfl own1 A' cap' ys rfl R2 hF' (by simp; omega) hbw1.size ?_
       intro v2 w2 own2 hb2
       have hbw2 := hbw1.trans hb2
       clear own1 R2 hbw1 hb2))
  rw [List.nil_append] at own2
  obtain ⟨A2, c2, rfl, RS2⟩ := ownsRow_RS own2 (may_i32 HM.out)
  have HC := Lib.hid (points_any A2 c2 (xs ++ ys) w2 RS2 HM.out (by have := HHL.out; omega))
  have HB2 := Lib.hid hbw2
  clear own2 RS2 hbw2
  unfold PtsPost at HC
  go_wp2_with fail
  refine HC.out.mono ?_
  rintro e w3 ⟨l, A3, c3, rfl, hP, hll, hLS, hb3⟩
  have hbz := HB2.out.trans (hb3.mono HB2.out.size)
  have R1 := Lib.hid ((H1.out.below hbz).mono hbz.size)
  have R2 := Lib.hid ((H2.out.below hbz).mono hbz.size)
  have HP := Lib.hid hP
  have HPB := Lib.hid (pts_bounds hP HM.out)
  have HP0 := Lib.hid (pts_first hP HM.out)
  have HPL := Lib.hid (fun i p h1 h2 => pts_last hP HM.out (i := i) (p := p) h1 h2)
  have HLN := Lib.hid (pts_len hP)
  obtain ⟨n, hn⟩ : ∃ n, l.length = n := ⟨_, rfl⟩
  have HN := Lib.hid hn
  rw [hn] at hll HLN ⊢
  have HLS := Lib.hid hLS
  have HB := Lib.hid hbz
  have HLB := Lib.hid (show n ≤ 2 * (xs.length + ys.length) + 2 by rw [List.length_append] at hll; exact hll)
  have hnb : n ≤ 9000 := by have := HLB.out; have := HLL.out; omega
  clear hb3 HB2 hbz hP hn hLS hll H1 H2
  go_wp2
  go_loopw [8, 9] (fun v i wr => ∃ (k : Nat) (p : Int) (out : List Rng), i = .int .i64 k ∧ l[k]? = some p ∧ GatInv (gatF 3 xs ys) out p ∧ out.length ≤ k ∧ wr.ownsRow w3.heap.size 40 2 v out.length (cells2 out) ∧ Below w3.heap.size w3 wr) (fun _ i _ => n - (RowKit.intOf i).toNat)
  case atStart => exact ⟨0, 0, [], rfl, HP0.out, gat_start _, Nat.le_refl _, World.ownsRow_nil _ _ _ _, Below.refl _ _⟩
  case round =>
    obtain ⟨k, p, out, rfl, hp, I, hol, hown, hb⟩ := hrel
    have hkn : k < n := by have := (List.getElem?_eq_some_iff.1 hp).1; have := HN.out; omega
    have HIv := Lib.hid I
    have HOL := Lib.hid hol
    clear I
    by_cases hlt : k + 1 < n
    · obtain ⟨q, hq⟩ : ∃ q, l[k + 1]? = some q := ⟨l[k + 1]'(by have := HN.out; omega), List.getElem?_eq_getElem _⟩
      have hgap := pw_gap HP.out.s hp hq
      have hp0 := HPB.out p (List.mem_of_getElem? hp)
      have hq0 := HPB.out q (List.mem_of_getElem? hq)
      have HG := Lib.hid (fun r h1 h2 => gat_const (xs := xs) (ys := ys) 3 HP.out hgap.2 (r := r) h1 h2)
      obtain ⟨hpq, _⟩ := hgap
      obtain ⟨b, o, rfl, hbl, hcell⟩ := HLS.out.a
      have qp := (hb.cell (p := ⟨b, o + k, none⟩) hbl).trans (hcell k p hp)
      have qq := (hb.cell (p := ⟨b, o + (k + 1), none⟩) hbl).trans (hcell (k + 1) q hq)
      have HQ := Lib.hid hq
      have HP1 := Lib.hid hp
      clear hcell hp hq
      obtain ⟨p0, p1⟩ := hp0
      obtain ⟨q0, q1⟩ := hq0
      have i1 : (k : Int) + 1 < (n : Int) := by omega
      have i2 : (k : Int) < (n : Int) := by omega
      have i3 : (0 : Int) ≤ (k : Int) := by omega
      have C1 := Lib.hid (fun m => HI.out A cap xs p (by omega) (by omega) (wr.drewN m) ((R1.out.below (below_drewN hb m)).mono (below_drewN hb m).size))
      have C2 := Lib.hid (fun m => HI.out A' cap' ys p (by omega) (by omega) (wr.drewN m) ((R2.out.below (below_drewN hb m)).mono (below_drewN hb m).size))
      obtain ⟨X, hX⟩ : ∃ X, hasR xs p = X := ⟨_, rfl⟩
      obtain ⟨Y, hY⟩ : ∃ Y, hasR ys p = Y := ⟨_, rfl⟩
      rw [hX] at C1
      rw [hY] at C2
      have HF := Lib.hid (show gatF 3 xs ys p = wantR 3 X Y by rw [gatF, hX, hY])
      clear hX hY
      go_wp2_with fail
      go_quiet (first | (with_reducible refine Calls.quiet_of_same (C1.out _)) | (with_reducible refine Calls.quiet_of_same (C2.out _)))
      have hbq := below_drewN hb nq
      have howq : (wr.drewN nq).ownsRow w3.heap.size 40 2 u8 out.length (cells2 out) := hown
      have qp' : (wr.drewN nq).cell? ⟨b, o + k, none⟩ = some (.int .i32 p) := qp
      have qq' : (wr.drewN nq).cell? ⟨b, o + (k + 1), none⟩ = some (.int .i32 q) := qq
      generalize wr.drewN nq = W at *
      clear hb hown qp qq C1 C2
      cases X <;> cases Y
      · have HFW := Lib.hid (show gatF 3 xs ys p = true by rw [HF.out]; rfl)
        have hqm : -2147483648 ≤ q - 1 := by omega
        have hqm2 : q - 1 ≤ 2147483647 := by omega
        have hol2 : out.length ≤ 9000 := by have := HOL.out; omega
        rcases List.eq_nil_or_concat out with rfl | ⟨pre, z, rfl⟩
        · have HJ := Lib.hid (gat_push0 HIv.out hpq p0 q1 HG.out HFW.out)
          rw [List.length_nil] at howq
          obtain ⟨A0, c0, hv0⟩ : ∃ A0 c0, u8 = .slice A0 0 c0 := by
            rcases howq.2 with ⟨h, _⟩ | ⟨g', c', _, h, _⟩
            · exact ⟨_, _, h⟩
            · exact ⟨_, _, h⟩
          subst hv0
          go_wp2_with fail
          go_quiet (fail)
          have qp'' : (W.drewN nq).cell? ⟨b, o + k, none⟩ = some (.int .i32 p) := qp'
          have qq'' : (W.drewN nq).cell? ⟨b, o + (k + 1), none⟩ = some (.int .i32 q) := qq'
          have how2 : (W.drewN nq).ownsRow w3.heap.size 40 2 (.slice A0 0 c0) 0 (cells2 []) := howq
          have hbq2 := below_drewN hbq nq
          generalize W.drewN nq = W2 at *
          clear qp' qq' howq hbq
          have own1 : W2.drew.ownsRow w3.heap.size 40 2 (.slice A0 0 c0) 0 (cells2 ([] : List Rng)) := how2
          have hb1 := hbq2.drew
          have hlt0 := own_block_lt own1
          have hs1 : w3.heap.size ≤ W2.drew.heap.size := hb1.size
          have own2 := own1.alloc (.cells #[.int .i32 p, .int .i32 (q - 1)] 40)
          have hnews := news2 W2.drew 40 (.int .i32 p) (.int .i32 (q - 1)) rfl rfl
          have h1c : ∀ u ∈ ([.int .i32 p, .int .i32 (q - 1)] : List Value), u.oneCell' = true := by intro u hu; simp at hu; rcases hu with rfl | rfl <;> rfl
          have hml : 0 + 1 ≤ maxLen := by unfold maxLen; omega
          have hsz : w3.heap.size ≤ (W2.drew.alloc (.cells #[.int .i32 p, .int .i32 (q - 1)] 40)).heap.size := by rw [World.size_alloc]; omega
          have hO := Lib.hid own2
          have hN2 := Lib.hid hnews
          have hby : (0 + 1) * 8 ≤ 140737488355328 := by omega
          have hQ2 := Lib.hid (And.intro h1c (And.intro hml (And.intro hsz (And.intro hb1 (And.intro hlt0 (And.intro hby (show 0 < 1 by omega)))))))
          have HEK := Lib.hid (IntWalk.i64_in ((k : Int) + 1) (by omega))
          have HEQ := Lib.hid (IntWalk.i32_in (q - 1) (by omega))
          have HTN := Lib.hid (show ((k : Int) + 1).toNat = k + 1 by omega)
          have i5 : (0 : Int) ≤ (k : Int) + 1 := by omega
          clear how2 own1 hbq2 own2 hnews h1c hml hsz hb1 hlt0 hby
          go_wp2_with fail
          have ek := HEK.out
          have eq := HEQ.out
          have et := HTN.out
          go_region_law (refine step_append_lies _ rfl (.tmp 92) (.tmp 104) 36 rfl w3.heap.size 40 i0 (.agg #[.int .i32 0, .int .i32 0]) 2 8 Try.underlying36 hi hz0 hz1 hz2 rfl (by decide) (.slice A0 0 c0) 0 (cells2 ([] : List Rng)) (by simp [Act.eval]) hO.out ⟨W2.heap.size, 0, none⟩ 1 1 [.int .i32 p, .int .i32 (q - 1)] (by simp [Act.eval]) rfl hN2.out hQ2.out.1 hQ2.out.2.2.2.2.2.2 hQ2.out.2.1 hQ2.out.2.2.2.2.2.1 hQ2.out.2.2.1 _ rfl ?_; intro g cap2 w4 own3 hgrow _ _)
          all_goals
            clear ek eq et
            have hbz : Below w3.heap.size w3 w4 := (hQ2.out.2.2.2.1.alloc hs1 _).grown hgrow hQ2.out.2.2.1 (fun k e => (hQ2.out.2.2.2.2.1 k e).1)
            have e3 : cells2 ([] : List Rng) ++ [.int .i32 p, .int .i32 (q - 1)] = cells2 (([] : List Rng) ++ [(p, q - 1)]) := by rw [cells2_snoc ([] : List Rng) (p, q - 1)]; rfl
            rw [e3] at own3
            have HO3 := Lib.hid own3
            clear e3 hgrow own3
            go_wp2
            go_roundw
            case rel => exact ⟨k + 1, q, ([] : List Rng) ++ [(p, q - 1)], by go_num, HQ.out, HJ.out, by have h := HOL.out; (try simp at h ⊢); (try omega), by rw [show (([] : List Rng) ++ [(p, q - 1)]).length = 0 + 1 from by simp]; exact HO3.out, hbz⟩
            case measure => simp [RowKit.intOf]; omega
        · rw [List.concat_eq_append] at *
          rw [List.length_append, List.length_singleton] at howq hol2
          obtain ⟨g', cap', rfl⟩ := ownsRow_succ howq
          obtain ⟨hzp, hzm⟩ := gat_hi HIv.out rfl
          have hzm := (may_iff _).1 hzm
          have HM1 := Lib.hid (fun e => gat_merge HIv.out hpq p0 q1 HG.out HFW.out e)
          have HM2 := Lib.hid (fun e => gat_push1 HIv.out hpq p0 q1 HG.out HFW.out e)
          obtain ⟨zl, zh⟩ := z
          simp only at hzp hzm
          obtain ⟨z1, z2, z3⟩ := hzm
          obtain ⟨d1, d2⟩ := cells2_get (pre ++ [(zl, zh)]) pre.length (zl, zh) (by simp)
          have t2 := (howq.cellAt (pre.length * 2 + 1) (by omega)).trans d2
          have HOW := Lib.hid howq
          have hgl := own_block_lt howq g' rfl
          clear d1 d2 howq
          obtain ⟨m, hm⟩ : ∃ m, pre.length = m := ⟨_, rfl⟩
          rw [hm] at t2 HOW hol2 ⊢
          have HMM := Lib.hid hm
          have j0 : (0 : Int) < (m : Int) + 1 := by omega
          have j1 : (0 : Int) ≤ (m : Int) := by omega
          clear hm
          by_cases c : zh + 1 = p
          · have HJ := Lib.hid (HM1.out c)
            have d : (zh + 1 == p) = true := by simp [c]
            have t3 := HOW.out.frozenAt (m * 2 + 1)
            clear c
            go_wp2_with fail
            go_quiet (fail)
            have qq'' : (W.drewN nq).cell? ⟨b, o + (k + 1), none⟩ = some (.int .i32 q) := qq'
            have t2' : (W.drewN nq).cell? ⟨g', m * 2 + 1, none⟩ = some (.int .i32 zh) := t2
            have t3' : (W.drewN nq).frozen? ⟨g', m * 2 + 1, none⟩ = false := t3
            have how2 : (W.drewN nq).ownsRow w3.heap.size 40 2 (.slice (some ⟨g', 0, none⟩) (m + 1) cap') (m + 1) (cells2 (pre ++ [(zl, zh)])) := HOW.out
            have hbq2 := below_drewN hbq nq
            have hst := how2.stored (m * 2 + 1) (.int .i32 (q - 1))
            generalize W.drewN nq = W2 at *
            have HS := Lib.hid (show (W2.setCell ⟨g', m * 2 + 1, none⟩ (.int .i32 (q - 1))).ownsRow w3.heap.size 40 2 (.slice (some ⟨g', 0, none⟩) (m + 1) cap') (m + 1) (cells2 (pre ++ [(zl, q - 1)])) from by
              have h := hst.1
              rw [← HMM.out, cells2_set, HMM.out] at h
              exact h)
            have HBZ := Lib.hid (hbq2.grown hst.2 hbq2.size (fun k e => by injection e with e; omega))
            clear qp' qq' t2 t3 how2 hbq hst
            go_wp2
            go_roundw
            case rel => exact ⟨k + 1, q, pre ++ [(zl, q - 1)], by go_num, HQ.out, HJ.out, by have h := HOL.out; simp [HMM.out] at h ⊢; omega, by rw [List.length_append, HMM.out]; exact HS.out, HBZ.out⟩
            case measure => simp [RowKit.intOf]; omega
          · have HJ := Lib.hid (HM2.out c)
            have d : (zh + 1 == p) = false := by simp [c]
            clear c
            go_wp2_with fail
            go_quiet (fail)
            have qp'' : (W.drewN nq).cell? ⟨b, o + k, none⟩ = some (.int .i32 p) := qp'
            have qq'' : (W.drewN nq).cell? ⟨b, o + (k + 1), none⟩ = some (.int .i32 q) := qq'
            have how2 : (W.drewN nq).ownsRow w3.heap.size 40 2 (.slice (some ⟨g', 0, none⟩) (m + 1) cap') (m + 1) (cells2 (pre ++ [(zl, zh)])) := HOW.out
            have hbq2 := below_drewN hbq nq
            generalize W.drewN nq = W2 at *
            clear qp' qq' t2 hbq
            have own1 : W2.drew.ownsRow w3.heap.size 40 2 (.slice (some ⟨g', 0, none⟩) (m + 1) cap') (m + 1) (cells2 (pre ++ [(zl, zh)])) := how2
            have hb1 := hbq2.drew
            have hlt0 := own_block_lt own1
            have hs1 : w3.heap.size ≤ W2.drew.heap.size := hb1.size
            have own2 := own1.alloc (.cells #[.int .i32 p, .int .i32 (q - 1)] 40)
            have hnews := news2 W2.drew 40 (.int .i32 p) (.int .i32 (q - 1)) rfl rfl
            have h1c : ∀ u ∈ ([.int .i32 p, .int .i32 (q - 1)] : List Value), u.oneCell' = true := by intro u hu; simp at hu; rcases hu with rfl | rfl <;> rfl
            have hml : (m + 1) + 1 ≤ maxLen := by unfold maxLen; omega
            have hsz : w3.heap.size ≤ (W2.drew.alloc (.cells #[.int .i32 p, .int .i32 (q - 1)] 40)).heap.size := by rw [World.size_alloc]; omega
            have hO := Lib.hid own2
            have hN2 := Lib.hid hnews
            have hby : ((m + 1) + 1) * 8 ≤ 140737488355328 := by omega
            have hQ2 := Lib.hid (And.intro h1c (And.intro hml (And.intro hsz (And.intro hb1 (And.intro hlt0 (And.intro hby (show 0 < 1 by omega)))))))
            have HEK := Lib.hid (IntWalk.i64_in ((k : Int) + 1) (by omega))
            have HEQ := Lib.hid (IntWalk.i32_in (q - 1) (by omega))
            have HTN := Lib.hid (show ((k : Int) + 1).toNat = k + 1 by omega)
            have i5 : (0 : Int) ≤ (k : Int) + 1 := by omega
            clear how2 own1 hbq2 own2 hnews h1c hml hsz hb1 hlt0 hby
            go_wp2_with fail
            have ek := HEK.out
            have eq := HEQ.out
            have et := HTN.out
            go_region_law (refine step_append_lies _ rfl (.tmp 92) (.tmp 104) 36 rfl w3.heap.size 40 i0 (.agg #[.int .i32 0, .int .i32 0]) 2 8 Try.underlying36 hi hz0 hz1 hz2 rfl (by decide) (.slice (some ⟨g', 0, none⟩) (m + 1) cap') (m + 1) (cells2 (pre ++ [(zl, zh)])) (by simp [Act.eval]) hO.out ⟨W2.heap.size, 0, none⟩ 1 1 [.int .i32 p, .int .i32 (q - 1)] (by simp [Act.eval]) rfl hN2.out hQ2.out.1 hQ2.out.2.2.2.2.2.2 hQ2.out.2.1 hQ2.out.2.2.2.2.2.1 hQ2.out.2.2.1 _ rfl ?_; intro g cap2 w4 own3 hgrow _ _)
            all_goals
              clear ek eq et
              have hbz : Below w3.heap.size w3 w4 := (hQ2.out.2.2.2.1.alloc hs1 _).grown hgrow hQ2.out.2.2.1 (fun k e => (hQ2.out.2.2.2.2.1 k e).1)
              have e3 : cells2 (pre ++ [(zl, zh)]) ++ [.int .i32 p, .int .i32 (q - 1)] = cells2 ((pre ++ [(zl, zh)]) ++ [(p, q - 1)]) := by rw [cells2_snoc (pre ++ [(zl, zh)]) (p, q - 1)]; rfl
              rw [e3] at own3
              have HO3 := Lib.hid own3
              clear e3 hgrow own3
              go_wp2
              go_roundw
              case rel => exact ⟨k + 1, q, (pre ++ [(zl, zh)]) ++ [(p, q - 1)], by go_num, HQ.out, HJ.out, by have h := HOL.out; (try simp [HMM.out] at h ⊢); (try omega), by rw [show ((pre ++ [(zl, zh)]) ++ [(p, q - 1)]).length = (m + 1) + 1 from by simp [HMM.out]]; exact HO3.out, hbz⟩
              case measure => simp [RowKit.intOf]; omega
      · have HFW := Lib.hid (show gatF 3 xs ys p = true by rw [HF.out]; rfl)
        have hqm : -2147483648 ≤ q - 1 := by omega
        have hqm2 : q - 1 ≤ 2147483647 := by omega
        have hol2 : out.length ≤ 9000 := by have := HOL.out; omega
        rcases List.eq_nil_or_concat out with rfl | ⟨pre, z, rfl⟩
        · have HJ := Lib.hid (gat_push0 HIv.out hpq p0 q1 HG.out HFW.out)
          rw [List.length_nil] at howq
          obtain ⟨A0, c0, hv0⟩ : ∃ A0 c0, u8 = .slice A0 0 c0 := by
            rcases howq.2 with ⟨h, _⟩ | ⟨g', c', _, h, _⟩
            · exact ⟨_, _, h⟩
            · exact ⟨_, _, h⟩
          subst hv0
          go_wp2_with fail
          go_quiet (fail)
          have qp'' : (W.drewN nq).cell? ⟨b, o + k, none⟩ = some (.int .i32 p) := qp'
          have qq'' : (W.drewN nq).cell? ⟨b, o + (k + 1), none⟩ = some (.int .i32 q) := qq'
          have how2 : (W.drewN nq).ownsRow w3.heap.size 40 2 (.slice A0 0 c0) 0 (cells2 []) := howq
          have hbq2 := below_drewN hbq nq
          generalize W.drewN nq = W2 at *
          clear qp' qq' howq hbq
          have own1 : W2.drew.ownsRow w3.heap.size 40 2 (.slice A0 0 c0) 0 (cells2 ([] : List Rng)) := how2
          have hb1 := hbq2.drew
          have hlt0 := own_block_lt own1
          have hs1 : w3.heap.size ≤ W2.drew.heap.size := hb1.size
          have own2 := own1.alloc (.cells #[.int .i32 p, .int .i32 (q - 1)] 40)
          have hnews := news2 W2.drew 40 (.int .i32 p) (.int .i32 (q - 1)) rfl rfl
          have h1c : ∀ u ∈ ([.int .i32 p, .int .i32 (q - 1)] : List Value), u.oneCell' = true := by intro u hu; simp at hu; rcases hu with rfl | rfl <;> rfl
          have hml : 0 + 1 ≤ maxLen := by unfold maxLen; omega
          have hsz : w3.heap.size ≤ (W2.drew.alloc (.cells #[.int .i32 p, .int .i32 (q - 1)] 40)).heap.size := by rw [World.size_alloc]; omega
          have hO := Lib.hid own2
          have hN2 := Lib.hid hnews
          have hby : (0 + 1) * 8 ≤ 140737488355328 := by omega
          have hQ2 := Lib.hid (And.intro h1c (And.intro hml (And.intro hsz (And.intro hb1 (And.intro hlt0 (And.intro hby (show 0 < 1 by omega)))))))
          have HEK := Lib.hid (IntWalk.i64_in ((k : Int) + 1) (by omega))
          have HEQ := Lib.hid (IntWalk.i32_in (q - 1) (by omega))
          have HTN := Lib.hid (show ((k : Int) + 1).toNat = k + 1 by omega)
          have i5 : (0 : Int) ≤ (k : Int) + 1 := by omega
          clear how2 own1 hbq2 own2 hnews h1c hml hsz hb1 hlt0 hby
          go_wp2_with fail
          have ek := HEK.out
          have eq := HEQ.out
          have et := HTN.out
          go_region_law (refine step_append_lies _ rfl (.tmp 92) (.tmp 104) 36 rfl w3.heap.size 40 i0 (.agg #[.int .i32 0, .int .i32 0]) 2 8 Try.underlying36 hi hz0 hz1 hz2 rfl (by decide) (.slice A0 0 c0) 0 (cells2 ([] : List Rng)) (by simp [Act.eval]) hO.out ⟨W2.heap.size, 0, none⟩ 1 1 [.int .i32 p, .int .i32 (q - 1)] (by simp [Act.eval]) rfl hN2.out hQ2.out.1 hQ2.out.2.2.2.2.2.2 hQ2.out.2.1 hQ2.out.2.2.2.2.2.1 hQ2.out.2.2.1 _ rfl ?_; intro g cap2 w4 own3 hgrow _ _)
          all_goals
            clear ek eq et
            have hbz : Below w3.heap.size w3 w4 := (hQ2.out.2.2.2.1.alloc hs1 _).grown hgrow hQ2.out.2.2.1 (fun k e => (hQ2.out.2.2.2.2.1 k e).1)
            have e3 : cells2 ([] : List Rng) ++ [.int .i32 p, .int .i32 (q - 1)] = cells2 (([] : List Rng) ++ [(p, q - 1)]) := by rw [cells2_snoc ([] : List Rng) (p, q - 1)]; rfl
            rw [e3] at own3
            have HO3 := Lib.hid own3
            clear e3 hgrow own3
            go_wp2
            go_roundw
            case rel => exact ⟨k + 1, q, ([] : List Rng) ++ [(p, q - 1)], by go_num, HQ.out, HJ.out, by have h := HOL.out; (try simp at h ⊢); (try omega), by rw [show (([] : List Rng) ++ [(p, q - 1)]).length = 0 + 1 from by simp]; exact HO3.out, hbz⟩
            case measure => simp [RowKit.intOf]; omega
        · rw [List.concat_eq_append] at *
          rw [List.length_append, List.length_singleton] at howq hol2
          obtain ⟨g', cap', rfl⟩ := ownsRow_succ howq
          obtain ⟨hzp, hzm⟩ := gat_hi HIv.out rfl
          have hzm := (may_iff _).1 hzm
          have HM1 := Lib.hid (fun e => gat_merge HIv.out hpq p0 q1 HG.out HFW.out e)
          have HM2 := Lib.hid (fun e => gat_push1 HIv.out hpq p0 q1 HG.out HFW.out e)
          obtain ⟨zl, zh⟩ := z
          simp only at hzp hzm
          obtain ⟨z1, z2, z3⟩ := hzm
          obtain ⟨d1, d2⟩ := cells2_get (pre ++ [(zl, zh)]) pre.length (zl, zh) (by simp)
          have t2 := (howq.cellAt (pre.length * 2 + 1) (by omega)).trans d2
          have HOW := Lib.hid howq
          have hgl := own_block_lt howq g' rfl
          clear d1 d2 howq
          obtain ⟨m, hm⟩ : ∃ m, pre.length = m := ⟨_, rfl⟩
          rw [hm] at t2 HOW hol2 ⊢
          have HMM := Lib.hid hm
          have j0 : (0 : Int) < (m : Int) + 1 := by omega
          have j1 : (0 : Int) ≤ (m : Int) := by omega
          clear hm
          by_cases c : zh + 1 = p
          · have HJ := Lib.hid (HM1.out c)
            have d : (zh + 1 == p) = true := by simp [c]
            have t3 := HOW.out.frozenAt (m * 2 + 1)
            clear c
            go_wp2_with fail
            go_quiet (fail)
            have qq'' : (W.drewN nq).cell? ⟨b, o + (k + 1), none⟩ = some (.int .i32 q) := qq'
            have t2' : (W.drewN nq).cell? ⟨g', m * 2 + 1, none⟩ = some (.int .i32 zh) := t2
            have t3' : (W.drewN nq).frozen? ⟨g', m * 2 + 1, none⟩ = false := t3
            have how2 : (W.drewN nq).ownsRow w3.heap.size 40 2 (.slice (some ⟨g', 0, none⟩) (m + 1) cap') (m + 1) (cells2 (pre ++ [(zl, zh)])) := HOW.out
            have hbq2 := below_drewN hbq nq
            have hst := how2.stored (m * 2 + 1) (.int .i32 (q - 1))
            generalize W.drewN nq = W2 at *
            have HS := Lib.hid (show (W2.setCell ⟨g', m * 2 + 1, none⟩ (.int .i32 (q - 1))).ownsRow w3.heap.size 40 2 (.slice (some ⟨g', 0, none⟩) (m + 1) cap') (m + 1) (cells2 (pre ++ [(zl, q - 1)])) from by
              have h := hst.1
              rw [← HMM.out, cells2_set, HMM.out] at h
              exact h)
            have HBZ := Lib.hid (hbq2.grown hst.2 hbq2.size (fun k e => by injection e with e; omega))
            clear qp' qq' t2 t3 how2 hbq hst
            go_wp2
            go_roundw
            case rel => exact ⟨k + 1, q, pre ++ [(zl, q - 1)], by go_num, HQ.out, HJ.out, by have h := HOL.out; simp [HMM.out] at h ⊢; omega, by rw [List.length_append, HMM.out]; exact HS.out, HBZ.out⟩
            case measure => simp [RowKit.intOf]; omega
          · have HJ := Lib.hid (HM2.out c)
            have d : (zh + 1 == p) = false := by simp [c]
            clear c
            go_wp2_with fail
            go_quiet (fail)
            have qp'' : (W.drewN nq).cell? ⟨b, o + k, none⟩ = some (.int .i32 p) := qp'
            have qq'' : (W.drewN nq).cell? ⟨b, o + (k + 1), none⟩ = some (.int .i32 q) := qq'
            have how2 : (W.drewN nq).ownsRow w3.heap.size 40 2 (.slice (some ⟨g', 0, none⟩) (m + 1) cap') (m + 1) (cells2 (pre ++ [(zl, zh)])) := HOW.out
            have hbq2 := below_drewN hbq nq
            generalize W.drewN nq = W2 at *
            clear qp' qq' t2 hbq
            have own1 : W2.drew.ownsRow w3.heap.size 40 2 (.slice (some ⟨g', 0, none⟩) (m + 1) cap') (m + 1) (cells2 (pre ++ [(zl, zh)])) := how2
            have hb1 := hbq2.drew
            have hlt0 := own_block_lt own1
            have hs1 : w3.heap.size ≤ W2.drew.heap.size := hb1.size
            have own2 := own1.alloc (.cells #[.int .i32 p, .int .i32 (q - 1)] 40)
            have hnews := news2 W2.drew 40 (.int .i32 p) (.int .i32 (q - 1)) rfl rfl
            have h1c : ∀ u ∈ ([.int .i32 p, .int .i32 (q - 1)] : List Value), u.oneCell' = true := by intro u hu; simp at hu; rcases hu with rfl | rfl <;> rfl
            have hml : (m + 1) + 1 ≤ maxLen := by unfold maxLen; omega
            have hsz : w3.heap.size ≤ (W2.drew.alloc (.cells #[.int .i32 p, .int .i32 (q - 1)] 40)).heap.size := by rw [World.size_alloc]; omega
            have hO := Lib.hid own2
            have hN2 := Lib.hid hnews
            have hby : ((m + 1) + 1) * 8 ≤ 140737488355328 := by omega
            have hQ2 := Lib.hid (And.intro h1c (And.intro hml (And.intro hsz (And.intro hb1 (And.intro hlt0 (And.intro hby (show 0 < 1 by omega)))))))
            have HEK := Lib.hid (IntWalk.i64_in ((k : Int) + 1) (by omega))
            have HEQ := Lib.hid (IntWalk.i32_in (q - 1) (by omega))
            have HTN := Lib.hid (show ((k : Int) + 1).toNat = k + 1 by omega)
            have i5 : (0 : Int) ≤ (k : Int) + 1 := by omega
            clear how2 own1 hbq2 own2 hnews h1c hml hsz hb1 hlt0 hby
            go_wp2_with fail
            have ek := HEK.out
            have eq := HEQ.out
            have et := HTN.out
            go_region_law (refine step_append_lies _ rfl (.tmp 92) (.tmp 104) 36 rfl w3.heap.size 40 i0 (.agg #[.int .i32 0, .int .i32 0]) 2 8 Try.underlying36 hi hz0 hz1 hz2 rfl (by decide) (.slice (some ⟨g', 0, none⟩) (m + 1) cap') (m + 1) (cells2 (pre ++ [(zl, zh)])) (by simp [Act.eval]) hO.out ⟨W2.heap.size, 0, none⟩ 1 1 [.int .i32 p, .int .i32 (q - 1)] (by simp [Act.eval]) rfl hN2.out hQ2.out.1 hQ2.out.2.2.2.2.2.2 hQ2.out.2.1 hQ2.out.2.2.2.2.2.1 hQ2.out.2.2.1 _ rfl ?_; intro g cap2 w4 own3 hgrow _ _)
            all_goals
              clear ek eq et
              have hbz : Below w3.heap.size w3 w4 := (hQ2.out.2.2.2.1.alloc hs1 _).grown hgrow hQ2.out.2.2.1 (fun k e => (hQ2.out.2.2.2.2.1 k e).1)
              have e3 : cells2 (pre ++ [(zl, zh)]) ++ [.int .i32 p, .int .i32 (q - 1)] = cells2 ((pre ++ [(zl, zh)]) ++ [(p, q - 1)]) := by rw [cells2_snoc (pre ++ [(zl, zh)]) (p, q - 1)]; rfl
              rw [e3] at own3
              have HO3 := Lib.hid own3
              clear e3 hgrow own3
              go_wp2
              go_roundw
              case rel => exact ⟨k + 1, q, (pre ++ [(zl, zh)]) ++ [(p, q - 1)], by go_num, HQ.out, HJ.out, by have h := HOL.out; (try simp [HMM.out] at h ⊢); (try omega), by rw [show ((pre ++ [(zl, zh)]) ++ [(p, q - 1)]).length = (m + 1) + 1 from by simp [HMM.out]]; exact HO3.out, hbz⟩
              case measure => simp [RowKit.intOf]; omega
      · have HJ := Lib.hid (gat_skip HIv.out hpq HG.out (by rw [HF.out]; rfl))
        go_wp2
        go_roundw
        case rel => exact ⟨k + 1, q, out, by go_num, HQ.out, HJ.out, by have := HOL.out; omega, howq, hbq⟩
        case measure => simp [RowKit.intOf]; omega
      · have HJ := Lib.hid (gat_skip HIv.out hpq HG.out (by rw [HF.out]; rfl))
        go_wp2
        go_roundw
        case rel => exact ⟨k + 1, q, out, by go_num, HQ.out, HJ.out, by have := HOL.out; omega, howq, hbq⟩
        case measure => simp [RowKit.intOf]; omega
    · have hkn2 : n = k + 1 := by omega
      have hpe := HPL.out k p hp (by have := HN.out; omega)
      subst hpe
      have hm := HIv.out.m
      have HMm := Lib.hid hm
      clear hm
      have i1 : ¬ ((k : Int) + 1 < (n : Int)) := by omega
      have i4 : decide ((k : Int) + 1 < (n : Int)) = false := by simpa using i1
      subst hkn2
      go_wp2
      go_ret
      exact ⟨out, HIv.out.r, HMm.out, by have := HLB.out; omega, u8, rfl, own_mono hown HB.out.size, HB.out.trans (hb.mono HB.out.size)⟩
end Go.Proofs.Ytphhdkffnboboaa

namespace Go.Proofs.Ytphhdkffnboboaa
open Go.RowKit Go.Shelf
open Go.Lib

theorem gat_sp {how : Int} {xs ys : List Rng} {f : Int → Bool} {w : World} {e : Ending} {w' : World} (hf : ∀ r, f r = (decide (0 ≤ r) && decide (r < 1114112) && gatF how xs ys r)) (h : GatPost how xs ys w e w') :
    SP (norm f) w e w' ∧ (norm f).length ≤ 2 * (xs.length + ys.length) + 2 := by
  obtain ⟨out, ho, hh, hol, hH⟩ := h
  have hh' : ∀ r, hasR out r = f r := fun r => by
    rw [hf, Bool.eq_iff_iff, hh r]
    simp [and_assoc]
  refine ⟨sp_norm hH ho hh', ?_⟩
  rw [← norm_eq ho hh']
  exact hol
theorem may_in {xs : List Rng} (h : ∀ x ∈ xs, may x = true) {r : Int} (hr : hasR xs r = true) : 0 ≤ r ∧ r < 1114112 := by
  obtain ⟨x, hx, h1, h2⟩ := (hasR_iff xs r).1 hr
  have := (may_iff x).1 (h x hx)
  omega
theorem right_mays {xs : List Rng} (h : right xs = true) : ∀ x ∈ xs, may x = true := fun x hx => (right_may (b := -1) h x hx).1

theorem in_or {xs ys : List Rng} (h : ∀ x ∈ xs, may x = true) (h' : ∀ x ∈ ys, may x = true) (r : Int) : (hasR xs r || hasR ys r) = (decide (0 ≤ r) && decide (r < 1114112) && gatF 0 xs ys r) := by
  have a := fun e => may_in h (r := r) e
  have b := fun e => may_in h' (r := r) e
  have e : gatF 0 xs ys r = (hasR xs r || hasR ys r) := rfl
  rw [e]
  cases hx : hasR xs r <;> cases hy : hasR ys r <;> simp [hx, hy] at a b ⊢ <;> omega
theorem in_cut {xs ys : List Rng} (h : ∀ x ∈ xs, may x = true) (r : Int) : cutR xs ys r = (decide (0 ≤ r) && decide (r < 1114112) && gatF 1 xs ys r) := by
  have a := fun e => may_in h (r := r) e
  have e : gatF 1 xs ys r = (hasR xs r && hasR ys r) := rfl
  rw [e, cutR]
  cases hx : hasR xs r <;> cases hy : hasR ys r <;> simp [hx] at a ⊢ <;> omega
theorem in_minus {xs ys : List Rng} (h : ∀ x ∈ xs, may x = true) (r : Int) : minusR xs ys r = (decide (0 ≤ r) && decide (r < 1114112) && gatF 2 xs ys r) := by
  have a := fun e => may_in h (r := r) e
  have e : gatF 2 xs ys r = (hasR xs r && !hasR ys r) := rfl
  rw [e, minusR]
  cases hx : hasR xs r <;> cases hy : hasR ys r <;> simp [hx] at a ⊢ <;> omega
theorem in_not {xs : List Rng} (r : Int) : notR xs r = (decide (0 ≤ r) && decide (r < 1114112) && gatF 3 xs [] r) := by
  have e : gatF 3 xs [] r = !hasR xs r := rfl
  rw [e, notR]
  have e2 : decide (r ≤ 1114111) = decide (r < 1114112) := by rw [decide_eq_decide]; omega
  rw [e2]

/-- virguleref02.Make. -/
theorem rmake_sp (A : Option Addr) (c : Nat) (xs : List Rng) (w : World) (h : AW w A c xs) (hm : ∀ x ∈ xs, may x = true) (hl : xs.length ≤ 2000) :
    Calls Try.prog 52 #[.slice A xs.length c] w fun e w' => SP (norm (hasR xs)) w e w' ∧ (norm (hasR xs)).length ≤ 2 * xs.length + 2 := by
  have C := (gather0_any A c xs none 0 [] w h.r h.f (RS_nil _ _) (fun _ => rfl) hm (by simp) hl (by simp)).mono fun e w' hh => gat_sp (f := hasR xs) (fun r => by rw [← in_or hm (by simp) r]; simp [hasR_nil]) hh
  have C := Lib.hid C
  have hf := Lib.hid h.f
  clear h
  go_enter Try.func52, Try.ntmps52
  go_wp2_with fail
  refine C.out.mono ?_
  rintro e w1 ⟨⟨A1, c1, rfl, hS, hb⟩, hol⟩
  have H := Lib.hid (And.intro hS (And.intro hb hol))
  clear hS hb hol
  go_wp2
  go_ret
  exact ⟨⟨A1, c1, rfl, H.out.1, H.out.2.1⟩, by have := H.out.2.2; simpa using this⟩
/-- virguleref02.Not. -/
theorem rnot_sp (A : Option Addr) (c : Nat) (xs : List Rng) (w : World) (h : AW w A c xs) (hr : right xs = true) (hl : xs.length ≤ 2000) :
    Calls Try.prog 68 #[.slice A xs.length c] w (SP (norm (notR xs)) w) := by
  have C := Lib.hid ((gather3_any A c xs none 0 [] w h.r h.f (RS_nil _ _) (fun _ => rfl) (right_mays hr) (by simp) hl (by simp)).mono fun e w' hh => (gat_sp (f := notR xs) in_not hh).1)
  clear h hr hl
  go_enter Try.func68, Try.ntmps68
  go_wp2_with fail
  refine C.out.mono ?_
  rintro e w1 ⟨A1, c1, rfl, hS, hb⟩
  have H := Lib.hid (And.intro hS hb)
  clear hS hb
  go_wp2
  go_ret
  exact ⟨A1, c1, rfl, H.out.1, H.out.2⟩
end Go.Proofs.Ytphhdkffnboboaa

namespace Go.Proofs.Ytphhdkffnboboaa

abbrev Row := Int × Int × Nat
def rowsP : List Row := [(0, 8, 4), (9, 9, 29), (10, 10, 2), (11, 12, 3), (13, 13, 1), (14, 31, 4), (32, 32, 29), (33, 33, 30), (34, 34, 27), (39, 39, 26), (40, 40, 31), (41, 41, 32), (44, 44, 24), (45, 45, 33), (46, 46, 25), (48, 57, 22), (58, 58, 23), (59, 59, 24), (63, 63, 30), (65, 90, 17), (91, 91, 31), (93, 93, 32), (95, 95, 28), (97, 122, 18), (123, 123, 31), (125, 125, 32), (127, 132, 4), (133, 133, 3), (134, 159, 4), (160, 160, 34), (169, 169, 16), (170, 170, 18), (171, 171, 31), (173, 173, 7), (174, 174, 16), (181, 181, 18), (183, 183, 23), (186, 186, 18), (187, 187, 32), (192, 214, 17), (216, 222, 17), (223, 246, 18), (248, 255, 18), (768, 879, 5), (913, 929, 17), (931, 939, 17), (940, 974, 18), (1024, 1071, 17), (1072, 1119, 18), (1155, 1161, 5), (1425, 1469, 5), (1488, 1514, 19), (1536, 1541, 9), (1568, 1610, 19), (1611, 1631, 5), (1632, 1641, 22), (1757, 1757, 9), (2307, 2307, 10), (2308, 2361, 19), (2364, 2364, 5), (2366, 2368, 10), (2369, 2376, 5), (2377, 2380, 10), (2381, 2381, 5), (2404, 2405, 30), (2406, 2415, 22), (4352, 4447, 11), (4448, 4519, 12), (4520, 4607, 13), (5760, 5760, 29), (8192, 8198, 29), (8199, 8199, 34), (8200, 8202, 29), (8203, 8203, 35), (8204, 8204, 5), (8205, 8205, 6), (8206, 8207, 7), (8208, 8208, 33), (8209, 8209, 34), (8211, 8212, 33), (8216, 8216, 27), (8217, 8217, 26), (8220, 8221, 27), (8228, 8228, 25), (8232, 8233, 3), (8234, 8238, 7), (8239, 8239, 34), (8252, 8253, 30), (8255, 8256, 28), (8260, 8260, 24), (8287, 8287, 29), (8288, 8292, 7), (8400, 8432, 5), (8986, 8987, 16), (9193, 9203, 16), (9728, 10175, 16), (12288, 12288, 29), (12289, 12289, 32), (12290, 12290, 30), (12296, 12296, 31), (12297, 12297, 32), (12298, 12298, 31), (12299, 12299, 32), (12300, 12300, 31), (12301, 12301, 32), (12330, 12335, 5), (12353, 12438, 21), (12441, 12442, 5), (12449, 12538, 20), (12540, 12543, 20), (12784, 12799, 20), (13312, 19903, 21), (19968, 40959, 21), (43360, 43388, 11), (44032, 55203, 14), (55216, 55238, 12), (55243, 55291, 13), (63744, 64255, 21), (65024, 65039, 5), (65056, 65071, 5), (65279, 65279, 7), (65281, 65281, 30), (65288, 65288, 31), (65289, 65289, 32), (65292, 65292, 32), (65294, 65294, 25), (65296, 65305, 22), (65311, 65311, 30), (65313, 65338, 17), (65345, 65370, 18), (65382, 65437, 20), (127462, 127487, 8), (127744, 127994, 16), (127995, 127999, 5), (128000, 128591, 16), (128640, 128767, 16), (129280, 129535, 16), (131072, 196605, 21), (917536, 917631, 5), (917760, 917999, 5)]
def refList : Nat → List Rng
  | 1 => [(13, 13)]
  | 2 => [(10, 10)]
  | 3 => [(11, 12), (133, 133), (8232, 8233)]
  | 4 => [(0, 8), (14, 31), (127, 132), (134, 159)]
  | 5 => [(768, 879), (1155, 1161), (1425, 1469), (1611, 1631), (2364, 2364), (2369, 2376), (2381, 2381), (8204, 8204), (8400, 8432), (12330, 12335), (12441, 12442), (65024, 65039), (65056, 65071), (127995, 127999), (917536, 917631), (917760, 917999)]
  | 6 => [(8205, 8205)]
  | 7 => [(173, 173), (8206, 8207), (8234, 8238), (8288, 8292), (65279, 65279)]
  | 8 => [(127462, 127487)]
  | 9 => [(1536, 1541), (1757, 1757)]
  | 10 => [(2307, 2307), (2366, 2368), (2377, 2380)]
  | 11 => [(4352, 4447), (43360, 43388)]
  | 12 => [(4448, 4519), (55216, 55238)]
  | 13 => [(4520, 4607), (55243, 55291)]
  | 16 => [(169, 169), (174, 174), (8986, 8987), (9193, 9203), (9728, 10175), (127744, 127994), (128000, 128591), (128640, 128767), (129280, 129535)]
  | 17 => [(65, 90), (192, 214), (216, 222), (913, 929), (931, 939), (1024, 1071), (65313, 65338)]
  | 18 => [(97, 122), (170, 170), (181, 181), (186, 186), (223, 246), (248, 255), (940, 974), (1072, 1119), (65345, 65370)]
  | 19 => [(1488, 1514), (1568, 1610), (2308, 2361)]
  | 20 => [(12449, 12538), (12540, 12543), (12784, 12799), (65382, 65437)]
  | 21 => [(12353, 12438), (13312, 19903), (19968, 40959), (63744, 64255), (131072, 196605)]
  | 22 => [(48, 57), (1632, 1641), (2406, 2415), (65296, 65305)]
  | 23 => [(58, 58), (183, 183)]
  | 24 => [(44, 44), (59, 59), (8260, 8260)]
  | 25 => [(46, 46), (8228, 8228), (65294, 65294)]
  | 26 => [(39, 39), (8217, 8217)]
  | 27 => [(34, 34), (8216, 8216), (8220, 8221)]
  | 28 => [(95, 95), (8255, 8256)]
  | 29 => [(9, 9), (32, 32), (5760, 5760), (8192, 8198), (8200, 8202), (8287, 8287), (12288, 12288)]
  | 30 => [(33, 33), (63, 63), (2404, 2405), (8252, 8253), (12290, 12290), (65281, 65281), (65311, 65311)]
  | 31 => [(40, 40), (91, 91), (123, 123), (171, 171), (12296, 12296), (12298, 12298), (12300, 12300), (65288, 65288)]
  | 32 => [(41, 41), (93, 93), (125, 125), (187, 187), (12289, 12289), (12297, 12297), (12299, 12299), (12301, 12301), (65289, 65289), (65292, 65292)]
  | 33 => [(45, 45), (8208, 8208), (8211, 8212)]
  | 34 => [(160, 160), (8199, 8199), (8209, 8209), (8239, 8239)]
  | 35 => [(8203, 8203)]
  | _ => []
def inRow (x : Row) (r : Int) : Bool := decide (x.1 ≤ r) && decide (r ≤ x.2.1)
def atRow (x : Row) (r : Int) : Nat := if x.2.2 = 14 ∧ (r - x.1) % 28 ≠ 0 then 15 else x.2.2
/-- The class as prop finds it: the first row that ends no sooner. -/
def classR (r : Int) : Nat := match rowsP.find? (fun x => decide (r ≤ x.2.1)) with | none => 0 | some x => if r < x.1 then 0 else atRow x r
/-- The class as the document's answer finds it. -/
def classF (r : Int) : Nat := if 44032 ≤ r ∧ r ≤ 55203 then (if (r - 44032) % 28 = 0 then 14 else 15) else ((List.range 36).find? fun c => hasR (refList c) r).getD 0

/-- Rows rise. -/
def rises : Int → List Row → Bool
  | _, [] => true
  | b, x :: xs => decide (b < x.1) && decide (x.1 ≤ x.2.1) && rises x.2.1 xs
theorem rows_rise : rises (-1) rowsP = true := by decide +kernel
theorem rises_gt {b : Int} {l : List Row} (h : rises b l = true) : ∀ x ∈ l, b < x.1 ∧ x.1 ≤ x.2.1 := by
  induction l generalizing b with
  | nil => simp
  | cons y ys ih =>
    simp [rises] at h
    intro x hx
    rcases List.mem_cons.1 hx with rfl | hx
    · exact h.1
    · have := ih h.2 x hx
      omega
/-- The first row that ends no sooner than a number is the only one that may have it. -/
theorem find_row {b : Int} {l : List Row} (h : rises b l = true) (r : Int) : match l.find? (fun x => decide (r ≤ x.2.1)) with
    | none => ∀ x ∈ l, inRow x r = false
    | some y => y ∈ l ∧ ∀ x ∈ l, inRow x r = true ↔ (x = y ∧ y.1 ≤ r) := by
  induction l generalizing b with
  | nil => simp
  | cons y ys ih =>
    simp only [rises, Bool.and_eq_true, decide_eq_true_eq] at h
    obtain ⟨⟨h1, h2⟩, h3⟩ := h
    have hgt := rises_gt h3
    rw [List.find?_cons]
    by_cases c : r ≤ y.2.1
    · simp only [c, decide_true]
      refine ⟨List.mem_cons_self, fun x hx => ?_⟩
      rcases List.mem_cons.1 hx with rfl | hx
      · simp [inRow, c]
      · have := hgt x hx
        constructor
        · intro e; simp [inRow] at e; omega
        · rintro ⟨rfl, _⟩; omega
    · simp only [c, decide_false]
      have := ih h3
      split
      · rename_i e
        rw [e] at this
        intro x hx
        rcases List.mem_cons.1 hx with rfl | hx
        · simp [inRow, c]
        · exact this x hx
      · rename_i z e
        rw [e] at this
        refine ⟨List.mem_cons_of_mem _ this.1, fun x hx => ?_⟩
        rcases List.mem_cons.1 hx with rfl | hx
        · constructor
          · intro e; simp [inRow, c] at e
          · rintro ⟨rfl, _⟩
            have hz := List.find?_some e
            simp at hz
            omega
        · exact this.2 x hx
theorem ref_rows : ((List.range 36).all fun c => (refList c).all fun y => decide ((y.1, y.2, c) ∈ rowsP)) = true := by decide +kernel
theorem rows_ref : (rowsP.all fun x => if x.2.2 = 14 then decide (x = (44032, 55203, 14)) else decide (0 < x.2.2 ∧ x.2.2 < 36 ∧ x.2.2 ≠ 15 ∧ (x.1, x.2.1) ∈ refList x.2.2)) = true := by decide +kernel
theorem lv_row : ((44032, 55203, 14) : Row) ∈ rowsP := by decide +kernel
theorem ref_1415 : refList 14 = [] ∧ refList 15 = [] ∧ refList 0 = [] := ⟨rfl, rfl, rfl⟩
/-- Which lists a number is in. -/
theorem has_ref {c : Nat} (hc : c < 36) (r : Int) : hasR (refList c) r = true ↔ ∃ x ∈ rowsP, x.2.2 = c ∧ c ≠ 14 ∧ inRow x r = true := by
  constructor
  · intro h
    obtain ⟨y, hy, h1, h2⟩ := (hasR_iff _ _).1 h
    have := List.all_eq_true.1 (List.all_eq_true.1 ref_rows c (List.mem_range.2 hc)) y hy
    simp only [decide_eq_true_eq] at this
    refine ⟨_, this, rfl, ?_, by simp [inRow, h1, h2]⟩
    rintro rfl
    rw [ref_1415.1] at hy
    simp at hy
  · rintro ⟨x, hx, rfl, h14, hr⟩
    have := List.all_eq_true.1 rows_ref x hx
    rw [if_neg h14] at this
    simp only [decide_eq_true_eq] at this
    simp [inRow] at hr
    exact (hasR_iff _ _).2 ⟨_, this.2.2.2, hr.1, hr.2⟩
theorem class_of_row {x : Row} {r : Int} (hx : x ∈ rowsP) (hr : inRow x r = true) (h14 : x.2.2 ≠ 14) : ((List.range 36).find? fun c => hasR (refList c) r) = some x.2.2 := by
  have hrow := List.all_eq_true.1 rows_ref x hx
  rw [if_neg h14] at hrow
  simp only [decide_eq_true_eq] at hrow
  have hF := find_row rows_rise r
  have hone : ∀ c, c < 36 → hasR (refList c) r = true → c = x.2.2 := by
    intro c hc h
    obtain ⟨y, hy, rfl, _, hyr⟩ := (has_ref hc r).1 h
    split at hF
    · have := hF x hx; rw [hr] at this; cases this
    · rw [((hF.2 y hy).1 hyr).1, ((hF.2 x hx).1 hr).1]
  have hhas := (has_ref hrow.2.1 r).2 ⟨x, hx, rfl, h14, hr⟩
  cases e : (List.range 36).find? fun c => hasR (refList c) r with
  | none =>
    have := List.find?_eq_none.1 e x.2.2 (List.mem_range.2 hrow.2.1)
    exact absurd hhas this
  | some c =>
    have h1 := List.find?_some e
    have h2 := List.mem_range.1 (List.mem_of_find?_eq_some e)
    rw [hone c h2 h1]
theorem class_none {r : Int} (h : ∀ x ∈ rowsP, inRow x r = false) : classF r = 0 := by
  unfold classF
  have hl := h _ lv_row
  simp [inRow] at hl
  rw [if_neg (by omega)]
  have : ((List.range 36).find? fun c => hasR (refList c) r) = none := by
    rw [List.find?_eq_none]
    intro c hc e
    obtain ⟨x, hx, _, _, hr⟩ := (has_ref (List.mem_range.1 hc) r).1 e
    rw [h x hx] at hr
    cases hr
  rw [this]
  rfl
theorem class_eq (r : Int) : classR r = classF r := by
  unfold classR
  have hF := find_row rows_rise r
  split
  · rename_i e
    rw [e] at hF
    exact (class_none hF).symm
  · rename_i x e
    rw [e] at hF
    obtain ⟨hx, hall⟩ := hF
    by_cases c : r < x.1
    · rw [if_pos c]
      refine (class_none fun y hy => ?_).symm
      rw [Bool.eq_false_iff]
      intro h
      have := (hall y hy).1 h
      omega
    · rw [if_neg c]
      have hr : inRow x r = true := (hall x hx).2 ⟨rfl, by omega⟩
      have hrow := List.all_eq_true.1 rows_ref x hx
      unfold classF atRow
      by_cases h14 : x.2.2 = 14
      · rw [if_pos h14] at hrow
        simp only [decide_eq_true_eq] at hrow
        subst hrow
        simp [inRow] at hr
        rw [if_pos hr]
        by_cases h0 : (r - 44032) % 28 = 0 <;> simp [h0]
      · have hl : ¬ (44032 ≤ r ∧ r ≤ 55203) := by
          intro hh
          have h1 := (hall _ lv_row).1 (by simp [inRow, hh.1, hh.2])
          rw [← h1.1] at h14
          exact h14 rfl
        rw [if_neg hl, class_of_row hx hr h14, if_neg (by simp [h14])]
        rfl
end Go.Proofs.Ytphhdkffnboboaa

namespace Go.Proofs.Ytphhdkffnboboaa

/-- The numbers of LV, and of LVT, as ranges. -/
def syl1 (c : Int) (k : Nat) : Rng := if c = 14 then (44032 + 28 * (k : Int), 44032 + 28 * (k : Int)) else (44032 + 28 * (k : Int) + 1, 44032 + 28 * (k : Int) + 27)
def syllP (c : Int) : List Rng := (List.range 399).map (syl1 c)
def wholeP (x : Row) : List Rng := [(x.1, x.2.1)]
def partP (c : Int) (x : Row) : List Rng := if x.2.2 = 14 ∧ (c = 14 ∨ c = 15) then syllP c else if (x.2.2 : Int) = c then wholeP x else []
/-- What virguleref04.Set answers, but of Other. -/
def refS (c : Nat) : List Rng := if c = 14 ∨ c = 15 then syllP c else refList c
def allP (n : Nat) : List Rng := (44032, 55203) :: (List.range n).flatMap fun k => refList (k + 1)

theorem part_ref : ((List.range 36).all fun c => c == 0 || (rowsP.flatMap (partP c) == refS c && right (refS c))) = true := by decide +kernel
theorem part_right {c : Nat} (h0 : 0 < c) (h : c < 36) : rowsP.flatMap (partP c) = refS c ∧ right (refS c) = true := by
  have := List.all_eq_true.1 part_ref c (List.mem_range.2 h)
  simp only [Bool.or_eq_true, Bool.and_eq_true, beq_iff_eq] at this
  rcases this with h1 | h1
  · omega
  · exact h1
theorem part_out {c : Int} (h : c < 0 ∨ 35 < c) : rowsP.flatMap (partP c) = [] := by
  rw [List.flatMap_eq_nil_iff]
  intro x hx
  have hr := List.all_eq_true.1 rows_ref x hx
  unfold partP
  rw [if_neg (by omega), if_neg]
  by_cases h14 : x.2.2 = 14
  · omega
  · rw [if_neg h14] at hr
    simp only [decide_eq_true_eq] at hr
    omega
theorem whole_len : (rowsP.flatMap wholeP).length = 140 := by decide +kernel
theorem whole_may : ((rowsP.flatMap wholeP).all may) = true := by decide +kernel
theorem all_len : (allP 35).length ≤ 200 := by decide +kernel
theorem all_may : ((allP 35).all may) = true := by decide +kernel
theorem part_len {c : Nat} (h0 : 0 < c) (h : c < 36) : (rowsP.flatMap (partP c)).length ≤ 1000 := by
  have : ((List.range 36).all fun c => decide ((refS c).length ≤ 1000)) = true := by decide +kernel
  have := List.all_eq_true.1 this c (List.mem_range.2 h)
  rw [(part_right h0 h).1]
  simpa using this

theorem has_whole (r : Int) : hasR (rowsP.flatMap wholeP) r = true ↔ ∃ x ∈ rowsP, inRow x r = true := by
  rw [hasR_iff]
  constructor
  · rintro ⟨y, hy, h1, h2⟩
    obtain ⟨x, hx, hyx⟩ := List.mem_flatMap.1 hy
    simp [wholeP] at hyx
    subst hyx
    exact ⟨x, hx, by simp [inRow]; exact ⟨h1, h2⟩⟩
  · rintro ⟨x, hx, hr⟩
    simp [inRow] at hr
    exact ⟨(x.1, x.2.1), List.mem_flatMap.2 ⟨x, hx, by simp [wholeP]⟩, hr.1, hr.2⟩
/-- Both lists of all numbers that are of a class but Other have the same numbers. -/
theorem has_all (r : Int) : hasR (allP 35) r = hasR (rowsP.flatMap wholeP) r := by
  rw [Bool.eq_iff_iff, has_whole, hasR_iff]
  constructor
  · rintro ⟨y, hy, h1, h2⟩
    unfold allP at hy
    rcases List.mem_cons.1 hy with rfl | hy
    · exact ⟨_, lv_row, by simp [inRow]; exact ⟨h1, h2⟩⟩
    · obtain ⟨k, hk, hyk⟩ := List.mem_flatMap.1 hy
      have hk := List.mem_range.1 hk
      obtain ⟨x, hx, _, _, hr⟩ := (has_ref (c := k + 1) (by omega) r).1 ((hasR_iff _ _).2 ⟨y, hyk, h1, h2⟩)
      exact ⟨x, hx, hr⟩
  · rintro ⟨x, hx, hr⟩
    by_cases h14 : x.2.2 = 14
    · have hrow := List.all_eq_true.1 rows_ref x hx
      rw [if_pos h14] at hrow
      simp only [decide_eq_true_eq] at hrow
      subst hrow
      simp [inRow] at hr
      exact ⟨(44032, 55203), by unfold allP; exact List.mem_cons_self, hr.1, hr.2⟩
    · have hrow := List.all_eq_true.1 rows_ref x hx
      rw [if_neg h14] at hrow
      simp only [decide_eq_true_eq] at hrow
      simp [inRow] at hr
      refine ⟨(x.1, x.2.1), ?_, hr.1, hr.2⟩
      unfold allP
      refine List.mem_cons_of_mem _ (List.mem_flatMap.2 ⟨x.2.2 - 1, List.mem_range.2 (by omega), ?_⟩)
      rw [show x.2.2 - 1 + 1 = x.2.2 by omega]
      exact hrow.2.2.2
theorem has_syll {c : Int} (hc : c = 14 ∨ c = 15) (r : Int) : hasR (syllP c) r = true ↔ 44032 ≤ r ∧ r ≤ 55203 ∧ ((r - 44032) % 28 = 0 ↔ c = 14) := by
  rw [hasR_iff]
  constructor
  · rintro ⟨y, hy, h1, h2⟩
    obtain ⟨k, hk, rfl⟩ := List.mem_map.1 hy
    have hk := List.mem_range.1 hk
    unfold syl1 at h1 h2
    rcases hc with rfl | rfl
    · simp at h1 h2
      omega
    · rw [if_neg (by omega)] at h1 h2
      simp only at h1 h2
      omega
  · rintro ⟨h1, h2, h3⟩
    refine ⟨syl1 c ((r - 44032) / 28).toNat, List.mem_map.2 ⟨_, List.mem_range.2 (by omega), rfl⟩, ?_⟩
    have hq : ((((r - 44032) / 28).toNat : Nat) : Int) = (r - 44032) / 28 := by omega
    unfold syl1
    rcases hc with rfl | rfl
    · rw [if_pos rfl, hq]
      simp only [iff_true] at h3
      simp only
      omega
    · rw [if_neg (by omega), hq]
      simp only
      omega
/-- Each number of a row is of one class, and of that class's parts. -/
theorem has_part {c : Nat} (h0 : 0 < c) (r : Int) : hasR (rowsP.flatMap (partP c)) r = true ↔ ∃ x ∈ rowsP, inRow x r = true ∧ atRow x r = c := by
  rw [hasR_iff]
  have key : ∀ x ∈ rowsP, hasR (partP c x) r = true ↔ (inRow x r = true ∧ atRow x r = c) := by
    intro x hx
    have hrow := List.all_eq_true.1 rows_ref x hx
    by_cases h14 : x.2.2 = 14
    · rw [if_pos h14] at hrow
      simp only [decide_eq_true_eq] at hrow
      subst hrow
      unfold partP atRow
      by_cases hc : (c : Int) = 14 ∨ (c : Int) = 15
      · rw [if_pos ⟨rfl, hc⟩, has_syll hc]
        simp [inRow]
        rcases hc with hc | hc
        · obtain rfl : c = 14 := by omega
          by_cases hm : (r - 44032) % 28 = 0 <;> simp [hm]
        · obtain rfl : c = 15 := by omega
          by_cases hm : (r - 44032) % 28 = 0 <;> simp [hm]
      · have e1 : ¬ (((44032, 55203, 14) : Row).2.2 = 14 ∧ ((c : Int) = 14 ∨ (c : Int) = 15)) := fun h => hc h.2
        have e2 : ¬ ((((44032, 55203, 14) : Row).2.2 : Int) = (c : Int)) := by show ¬ ((14 : Int) = (c : Int)); omega
        rw [if_neg e1, if_neg e2]
        constructor
        · intro h; simp [hasR] at h
        · rintro ⟨_, h⟩
          exfalso
          split at h
          · exact hc (.inr (by omega))
          · exact hc (.inl (by have : (14 : Nat) = c := h; omega))
    · unfold partP atRow
      have e1 : ¬ (x.2.2 = 14 ∧ ((c : Int) = 14 ∨ (c : Int) = 15)) := fun h => h14 h.1
      have e2 : ¬ (x.2.2 = 14 ∧ (r - x.1) % 28 ≠ 0) := fun h => h14 h.1
      rw [if_neg e1, if_neg e2]
      by_cases hc : x.2.2 = c
      · rw [if_pos (show (x.2.2 : Int) = (c : Int) by omega)]
        simp [hasR, wholeP, inRow, hc]
      · rw [if_neg (show ¬ (x.2.2 : Int) = (c : Int) by omega)]
        constructor
        · intro h; simp [hasR] at h
        · rintro ⟨_, h⟩; exact absurd h hc
  constructor
  · rintro ⟨y, hy, h1, h2⟩
    obtain ⟨x, hx, hyx⟩ := List.mem_flatMap.1 hy
    exact ⟨x, hx, (key x hx).1 ((hasR_iff _ _).2 ⟨y, hyx, h1, h2⟩)⟩
  · rintro ⟨x, hx, h⟩
    obtain ⟨y, hy, h1, h2⟩ := (hasR_iff _ _).1 ((key x hx).2 h)
    exact ⟨y, List.mem_flatMap.2 ⟨x, hx, hy⟩, h1, h2⟩
/-- The class of a number, by the one row that has it. -/
theorem classR_row {x : Row} (hx : x ∈ rowsP) {r : Int} (hr : inRow x r = true) : classR r = atRow x r := by
  unfold classR
  have hF := find_row rows_rise r
  split
  · rename_i e
    rw [e] at hF
    have := hF x hx
    rw [hr] at this
    cases this
  · rename_i y e
    rw [e] at hF
    obtain ⟨rfl, h⟩ := (hF.2 x hx).1 hr
    rw [if_neg (by omega)]
theorem at_pos {x : Row} (hx : x ∈ rowsP) (r : Int) : 0 < atRow x r ∧ atRow x r < 36 := by
  have hrow := List.all_eq_true.1 rows_ref x hx
  unfold atRow
  by_cases h14 : x.2.2 = 14
  · split <;> omega
  · rw [if_neg h14] at hrow
    simp only [decide_eq_true_eq] at hrow
    rw [if_neg (by simp [h14])]
    omega
theorem classR_none {r : Int} (h : ∀ x ∈ rowsP, inRow x r = false) : classR r = 0 := by rw [class_eq, class_none h]
theorem classR_lt (r : Int) : classR r < 36 := by
  by_cases h : ∃ x ∈ rowsP, inRow x r = true
  · obtain ⟨x, hx, hr⟩ := h
    rw [classR_row hx hr]
    exact (at_pos hx r).2
  · rw [classR_none fun x hx => Bool.eq_false_iff.2 fun e => h ⟨x, hx, e⟩]
    omega
/-- A set of a class but Other has the numbers of that class. -/
theorem has_class {c : Nat} (h0 : 0 < c) (r : Int) : hasR (rowsP.flatMap (partP c)) r = true ↔ classR r = c := by
  rw [has_part h0]
  constructor
  · rintro ⟨x, hx, hr, h⟩
    rw [classR_row hx hr, h]
  · intro h
    by_cases hh : ∃ x ∈ rowsP, inRow x r = true
    · obtain ⟨x, hx, hr⟩ := hh
      exact ⟨x, hx, hr, by rw [← classR_row hx hr, h]⟩
    · rw [classR_none fun x hx => Bool.eq_false_iff.2 fun e => hh ⟨x, hx, e⟩] at h
      omega
/-- The numbers that no row has are of Other. -/
theorem has_other (r : Int) : hasR (rowsP.flatMap wholeP) r = true ↔ classR r ≠ 0 := by
  rw [has_whole]
  constructor
  · rintro ⟨x, hx, hr⟩
    rw [classR_row hx hr]
    have := (at_pos hx r).1
    omega
  · intro h
    apply Classical.byContradiction
    intro hh
    exact h (classR_none fun x hx => Bool.eq_false_iff.2 fun e => hh ⟨x, hx, e⟩)
end Go.Proofs.Ytphhdkffnboboaa

