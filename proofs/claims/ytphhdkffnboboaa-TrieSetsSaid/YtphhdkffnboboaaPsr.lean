/-
  The law TrieSets: all numbers of any class; which classes there are, and how many unlike blocks.
  Arguments that are lists of entries, with what an empty set's address may be; the law TrieSets with what the row gives.
-/
import Derived.Test.YtphhdkffnboboaaPsq
import Derived.WalkKit
import Derived.ProofKit
import Derived.OpenShut
import Derived.JoinedTies
import Derived.Deep.SlicePairs
namespace Go.Proofs.Ytphhdkffnboboaa
open Go.RowKit Go.Shelf
open Go.Lib Go.Great Go.Maps

set_option maxHeartbeats 1000000 in
set_option maxRecDepth 100000 in
theorem tset_out (T : Nat) (c : Int) (w : World) (hc : cls c = false) :
    Calls Try.prog 20 #[.pointer (some ⟨T, 0, none⟩), .int .i64 c] w fun e w' => e = .returned (.slice none 0 0) ∧ w' = w := by
  have C1 := Lib.hid (isClass_any c)
  rw [hc] at C1
  have C1 := Lib.hid C1.out
  clear hc
  go_enter Try.func20, Try.ntmps20
  go_wp2_with fail
  refine (C1.out _).mono ?_
  rintro e w1 ⟨rfl, rfl⟩
  go_wp2_with fail
  go_ret
  exact ⟨rfl, rfl⟩
theorem setC_out {G : Nat → Int} (hG : U8 G) {c : Int} (hc : cls c = false) : setC G c = [] := by
  refine (setC_of (xs := []) ⟨rfl, fun r => ?_⟩).symm
  rw [hasR_nil]
  symm
  rw [Bool.eq_false_iff]
  intro h
  have := (clsTo_iff _ _ _ _).1 h
  have hu := hG r.toNat
  rw [this.2.2] at hu
  have := (cls_iff c).2 hu
  rw [hc] at this
  cases this
/-- Set at any class. -/
theorem tset_all (T : Nat) (o : Int) (G : Nat → Int) (c : Int) (w : World) (h : Tr w T o G) (hG : U8 G) :
    Calls Try.prog 20 #[.pointer (some ⟨T, 0, none⟩), .int .i64 c] w (SP (setC G c) w) := by
  cases hc : cls c with
  | true =>
    have := (cls_iff c).1 hc
    exact tset_sp T o G c w h hG this.1 this.2
  | false =>
    rw [setC_out hG hc]
    refine (tset_out T c w hc).mono ?_
    rintro e w' ⟨rfl, rfl⟩
    exact sp_nil _
theorem tellE_cls {o : Int} {es : List En} (ho : cls o = true) (h : ∀ e ∈ es, cls e.c = true) : U8 (tellE o es) := by
  intro i
  unfold tellE
  have : ∀ (l : List En), (∀ e ∈ l, cls e.c = true) → ∀ (v : Int), 0 ≤ v ∧ v ≤ 255 → 0 ≤ l.foldl (fun v e => if hasR e.xs i then e.c else v) v ∧ l.foldl (fun v e => if hasR e.xs i then e.c else v) v ≤ 255 := by
    intro l
    induction l with
    | nil => intro _ v hv; exact hv
    | cons x xs ih =>
      intro hm v hv
      rw [List.foldl_cons]
      refine ih (fun e he => hm e (List.mem_cons_of_mem _ he)) _ ?_
      split
      · exact (cls_iff _).1 (hm x List.mem_cons_self)
      · exact hv
  exact this es h o ((cls_iff o).1 ho)
theorem setC_none {G : Nat → Int} {c : Int} {xs : List Rng} (h : Tells xs (clsTo G c 1114112)) : (setC G c).length = 0 ↔ ¬ ∃ r, r < 1114112 ∧ G r = c := by
  rw [← setC_of h]
  constructor
  · rintro h0 ⟨r, hr, e⟩
    have h1 := h.2 (r : Int)
    rw [(clsTo_iff _ _ _ _).2 ⟨by omega, by omega, by simpa using e⟩, List.length_eq_zero_iff.1 h0] at h1
    simp [hasR] at h1
  · intro hn
    rcases Nat.eq_zero_or_pos xs.length with e | e
    · exact e
    · exfalso
      obtain ⟨x, hx⟩ := List.exists_mem_of_length_pos e
      have hm := (may_iff x).1 (right_may h.1 x hx).1
      have h1 : hasR xs x.1 = true := (hasR_iff _ _).2 ⟨x, hx, by omega, by omega⟩
      rw [h.2, clsTo_iff] at h1
      exact hn ⟨x.1.toNat, by omega, h1.2.2⟩
theorem filt_at (p : Nat → Bool) (n t : Nat) (h : t < n) (hp : p t = true) : ((List.range n).filter p)[((List.range t).filter p).length]? = some t := by
  have e : List.range n = List.range t ++ (t :: (List.range' (t + 1) (n - t - 1))) := by
    rw [List.range_eq_range', List.range_eq_range', show t :: List.range' (t + 1) (n - t - 1) = List.range' t (n - t) by rw [show n - t = (n - t - 1) + 1 by omega, List.range'_succ]; simp]
    rw [show List.range' t (n - t) = List.range' (0 + 1 * t) (n - t) by simp, List.range'_append]
    congr 1
    omega
  rw [e, List.filter_append, List.filter_cons, if_pos hp, List.getElem?_append_right (Nat.le_refl _)]
  simp

set_option maxHeartbeats 4000000 in
set_option maxRecDepth 100000 in
theorem tsets_any (o : Int) (A : Option Addr) (cap : Nat) (es : List En) (c : Int) (w : World) (h : ES w w.heap.size A cap es) (hF : ∀ e ∈ es, Fw e.A e.cap) :
    Calls Try.prog 5 #[.int .i64 o, .slice A es.length cap, .int .i64 c] w fun e w' => e = .returned (.bool true) ∧ Below w.heap.size w w' := by
  have T := Lib.hid taw_any
  have G := Lib.hid (great_any A cap es w h)
  have HE := Lib.hid h
  have HFw := Lib.hid hF
  obtain ⟨n, hn⟩ : ∃ n, es.length = n := ⟨_, rfl⟩
  have HN := Lib.hid hn
  rw [hn]
  rw [hn] at G
  obtain ⟨q, hq⟩ : ∃ q, greatE es = q := ⟨_, rfl⟩
  have HQ := Lib.hid hq
  rw [hq] at G
  have G := Lib.hid G.out
  clear h hn hq hF
  cases q with
  | true =>
    go_enter Try.func5, Try.ntmps5
    go_wp2_with fail
    refine G.out.mono ?_
    rintro e w1 ⟨rfl, rfl⟩
    go_wp2_with fail
    refine (T.out _).mono ?_
    rintro e w2 ⟨rfl, hb⟩
    go_wp2_with fail
    go_ret
    exact ⟨rfl, hb⟩
  | false =>
    have HG := Lib.hid (great_small HQ.out)
    have hn12 : n ≤ 12 := by have := HG.out.1; have := HN.out; omega
    go_enter Try.func5, Try.ntmps5
    go_wp2_with fail
    refine G.out.mono ?_
    rintro e w1 ⟨rfl, rfl⟩
    go_wp2_with fail
    refine (T.out _).mono ?_
    rintro e w2 ⟨rfl, hb⟩
    have HB := Lib.hid hb
    have MY := Lib.hid (lawmay_any o A cap es w2 ((HE.out.below hb).mono hb.size))
    rw [HN.out] at MY
    have MY := Lib.hid MY.out
    clear hb
    go_wp2_with fail
    refine MY.out.mono ?_
    rintro e w3 ⟨rfl, hb3⟩
    have hbz := HB.out.trans (hb3.mono HB.out.size)
    have HB := Lib.hid hbz
    obtain ⟨y1, hy1⟩ : ∃ y, mayE o es = y := ⟨_, rfl⟩
    have HY1 := Lib.hid hy1
    rw [hy1]
    clear hbz hb3 hy1
    cases y1 with
    | false =>
      have hbz := HB.out
      go_wp2_with fail
      go_ret
      exact ⟨rfl, hbz⟩
    | true =>
      have hmay := HY1.out
      unfold mayE at hmay
      rw [Bool.and_eq_true, List.all_eq_true] at hmay
      have HR : Hid (∀ e ∈ es, right e.xs = true) := Lib.hid (fun e he => by have := hmay.2 e he; rw [Bool.and_eq_true] at this; exact this.1)
      have HU : Hid (U8 (tellE o es)) := Lib.hid (tellE_cls hmay.1 (fun e he => by have := hmay.2 e he; rw [Bool.and_eq_true] at this; exact this.2))
      have HWR : Hid ((cls o && !es.any wrongE) = true) := Lib.hid (by rw [← mayE_wrong]; exact HY1.out)
      clear hmay
      have C1 := Lib.hid (lawto_any A cap es w3 ((HE.out.below HB.out).mono HB.out.size) HG.out.1 HG.out.2)
      rw [HN.out] at C1
      have C1 := Lib.hid C1.out
      go_wp2_with fail
      refine C1.out.mono ?_
      rintro e w5 ⟨A1, c1, es1, rfl, hl1, hs1, hES1, hF1, hbx⟩
      have e1 : es1.length = n := hl1
      have hN := new_any o A1 c1 es1 w5 hES1 hF1 (by omega) (same2_small hs1 HG.out.2)
      rw [e1] at hN
      have NW := Lib.hid hN
      have hok : (cls o && !es1.any wrongE) = true := by rw [same2_any _ _ hs1]; exact HWR.out
      have HOK := Lib.hid hok
      have HS1 := Lib.hid hs1
      have HB := Lib.hid (HB.out.trans (hbx.mono HB.out.size))
      clear hN hok hES1 hF1 hs1 hbx hl1 e1
      go_wp2_with fail
      refine NW.out.mono ?_
      rintro e w6 ⟨hbx, hp⟩
      rw [if_pos HOK.out] at hp
      obtain ⟨T1, F1, rfl, hU1, hFi, hT⟩ := hp
      have HFF : Hid (∀ r : Nat, r < 1114112 → F1 r = tellE o es r) := Lib.hid (fun i hi => by rw [hFi i hi, same2_fold _ _ HS1.out]; rfl)
      have HU1 := Lib.hid hU1
      have HT := Lib.hid hT
      have HB := Lib.hid (HB.out.trans (hbx.mono HB.out.size))
      clear hU1 hFi hT hbx
      have HSC : Hid (∀ c, setC F1 c = setC (tellE o es) c) := Lib.hid (setC_congr HFF.out)
      have HDD : Hid ((dd F1 4352).length = (dd (tellE o es) 4352).length) := Lib.hid (by rw [dd_congr HFF.out 4352 (Nat.le_refl _)])
      have ST := Lib.hid (tset_all T1 o F1 c w6 HT.out HU1.out)
      rw [HSC.out] at ST
      have RSf := Lib.hid (fun (c : Int) (W : World) (hW : Below w6.heap.size w6 W) => refset_any o A cap es c W ((HE.out.below (HB.out.trans (hW.mono HB.out.size))).mono (Nat.le_trans HB.out.size hW.size)) HG.out.1 HG.out.2 HFw.out HR.out)
      rw [HN.out] at RSf
      have RSf := Lib.hid RSf.out
      have BL1 := Lib.hid (fun (W : World) (hW : Below w6.heap.size w6 W) => blocks_any T1 o F1 W (HT.out.below hW))
      rw [HDD.out] at BL1
      have BL1 := Lib.hid BL1.out
      have BL2 := Lib.hid (fun (W : World) (hW : Below w6.heap.size w6 W) => refblocks_any o A cap es W ((HE.out.below (HB.out.trans (hW.mono HB.out.size))).mono (Nat.le_trans HB.out.size hW.size)) HG.out.1 HG.out.2 HFw.out HR.out HU.out)
      rw [HN.out] at BL2
      have BL2 := Lib.hid BL2.out
      generalize (dd (tellE o es) 4352).length = nb at *
      have ST := Lib.hid ST.out
      generalize hSc : setC (tellE o es) c = Sc at *
      have RC := RSf.out c
      rw [hSc] at RC
      have RC := Lib.hid RC
      clear hSc
      trace "S1"
      go_wp2_with fail
      refine ST.out.mono ?_
      rintro e w7 ⟨A7, c7, rfl, hS7, hb7⟩
      have HS7 := Lib.hid hS7
      have HB6 := Lib.hid hb7
      clear hS7 hb7
      go_wp2_with fail
      refine (RC.out _ HB6.out).mono ?_
      rintro e w8 ⟨A8, c8, rfl, hS8, hb8⟩
      have IS := is_any A7 c7 Sc A8 c8 Sc w8 (HS7.out.below hb8).r hS8.r
      rw [show decide (Sc = Sc) = true by simp] at IS
      have IS := Lib.hid IS
      have HB6 := Lib.hid (HB6.out.trans (hb8.mono HB6.out.size))
      clear hS8 hb8
      go_wp2_with fail
      refine IS.out.mono ?_
      rintro e w9 ⟨rfl, hb9⟩
      have HB6 := Lib.hid (HB6.out.trans (hb9.mono HB6.out.size))
      clear hb9
      go_wp2_with fail
      refine (BL1.out _ HB6.out).mono ?_
      rintro e w10 ⟨rfl, hb10⟩
      have HB6 := Lib.hid (HB6.out.trans (hb10.mono HB6.out.size))
      clear hb10
      go_wp2_with fail
      refine (BL2.out _ HB6.out).mono ?_
      rintro e w11 ⟨rfl, hb11⟩
      have HB6 := Lib.hid (HB6.out.trans (hb11.mono HB6.out.size))
      have CL := Lib.hid (tclasses_any T1 o F1 w11 (HT.out.below HB6.out) HU1.out)
      clear hb11
      trace "S2"
      go_wp2_with fail
      refine CL.out.mono ?_
      rintro e w13 ⟨vk, p, rfl, hk, hp, hb13⟩
      have HB6 := Lib.hid (HB6.out.trans (hb13.mono HB6.out.size))
      have HPN : Hid (∀ N : Nat, N < 256 → ((setC (tellE o es) (N : Int)).length = 0 ↔ p N = false)) := Lib.hid (fun N hN => by
        obtain ⟨xs, hx⟩ := tells_ex (tellE o es) (N : Int) 1114112 (Nat.le_refl _)
        rw [setC_none hx]
        have h2 := hp N hN
        constructor
        · intro hn
          rw [Bool.eq_false_iff]
          intro hpn
          obtain ⟨r, hr, e⟩ := h2.1 hpn
          exact hn ⟨r, hr, by rw [← HFF.out r hr]; exact e⟩
        · rintro hpf ⟨r, hr, e⟩
          rw [h2.2 ⟨r, hr, by rw [HFF.out r hr]; exact e⟩] at hpf
          cases hpf)
      have HAT : Hid (∀ t : Nat, t < 256 → p t = true → ((List.range 256).filter p)[((List.range t).filter p).length]? = some t) := Lib.hid (fun t ht hpt => filt_at p 256 t ht hpt)
      have HFS := Lib.hid (filt_succ p)
      have hlk := filt_len p 256
      generalize hcl : (List.range 256).filter p = cl at *
      have HCL := Lib.hid hcl
      have HAT := Lib.hid HAT.out
      obtain ⟨Ak, ck, rfl⟩ := own_form hk
      obtain ⟨L, hL⟩ : ∃ L, cl.length = L := ⟨_, rfl⟩
      have HL := Lib.hid hL
      rw [hL] at hk hlk ⊢
      have HK := Lib.hid hk
      clear hb13 hk hp hcl hL
      go_wp2_with fail
      trace "S3"
      go_loopw [10, 11] (fun kv iv wr => ∃ N : Nat, iv = .int .i64 (N : Int) ∧ N ≤ 256 ∧ kv = .int .i64 (((List.range N).filter p).length : Nat) ∧ Below w13.heap.size w13 wr) (fun _ iv _ => 256 - (RowKit.intOf iv).toNat)
      case atStart => exact ⟨0, rfl, Nat.zero_le _, rfl, Below.refl _ _⟩
      case round =>
        obtain ⟨N, rfl, hN, rfl, hb⟩ := hrel
        by_cases hlt : N < 256
        · have i1 : (N : Int) ≤ 255 := by omega
          have RN := Lib.hid (RSf.out (N : Int) wr (HB6.out.trans (hb.mono HB6.out.size)))
          have hpn := HPN.out N hlt
          have hfs := HFS.out N
          obtain ⟨kn, hkn⟩ : ∃ kn, ((List.range N).filter p).length = kn := ⟨_, rfl⟩
          have hat := HAT.out N hlt
          rw [hkn] at hat ⊢
          generalize setC (tellE o es) (N : Int) = SN at *
          have HBW := Lib.hid hb
          cases hpv : p N with
          | false =>
            have hz := hpn.2 hpv
            rw [hpv] at hfs
            have HK1 : Hid (((List.range (N + 1)).filter p).length = kn) := Lib.hid (by rw [hfs]; simpa using hkn)
            obtain rfl : SN = [] := List.length_eq_zero_iff.1 hz
            clear hpn hfs hat hkn hpv hz hb
            trace "S4"
            go_wp2_with fail
            refine RN.out.mono ?_
            rintro e w14 ⟨A9, c9, rfl, _, hb9⟩
            have HBW := Lib.hid (HBW.out.trans (hb9.mono HBW.out.size))
            clear hb9
            go_wp2_with fail
            go_roundw
            case rel => exact ⟨N + 1, by go_num, by omega, by rw [HK1.out], HBW.out⟩
            case measure => simp [RowKit.intOf] <;> omega
          | true =>
            have hz : ¬ SN.length = 0 := fun h => by rw [hpn.1 h] at hpv; cases hpv
            rw [hpv] at hfs
            have HK1 : Hid (((List.range (N + 1)).filter p).length = kn + 1) := Lib.hid (by rw [hfs]; simp [hkn])
            have hatv := hat hpv
            have hknL : kn < L := by have := (List.getElem?_eq_some_iff.1 hatv).1; have := HL.out; omega
            obtain ⟨g, cg, hvg, hg1, hg2⟩ := HK.out.form (by omega)
            simp only [Value.slice.injEq] at hvg
            obtain ⟨rfl, _, rfl⟩ := hvg
            have hcell := HK.out.cellAt kn (by omega)
            have hci : (intsL cl)[kn]? = some (.int .i64 (N : Int)) := by unfold intsL; rw [List.getElem?_map, hatv]; rfl
            rw [hci] at hcell
            have HCE := Lib.hid hcell
            obtain ⟨sl, hsl⟩ : ∃ sl, SN.length = sl := ⟨_, rfl⟩
            have hsp : (((sl : Nat) : Int) == 0) = false := by rw [beq_eq_false_iff_ne]; omega
            have j1 : (kn : Int) < (L : Int) := by omega
            have j2 : decide ((L : Int) ≤ (kn : Int)) = false := by simp; omega
            have j3 : decide (L ≤ kn) = false := by simp; omega
            clear hpn hfs hat hkn hpv hz hb hatv hcell hci
            trace "S5"
            go_wp2_with fail
            refine RN.out.mono ?_
            rintro e w14 ⟨A9, c9, rfl, _, hb9⟩
            have HBW := Lib.hid (HBW.out.trans (hb9.mono HBW.out.size))
            have hcw := (HBW.out.cell (p := ⟨g, kn, none⟩) hg2).trans HCE.out
            rw [hsl]
            clear hb9 hsl
            go_wp2_with fail
            go_roundw
            case rel => exact ⟨N + 1, by go_num, by omega, by rw [HK1.out]; go_num, HBW.out⟩
            case measure => simp [RowKit.intOf] <;> omega
        · have hN2 : N = 256 := by omega
          subst hN2
          rw [HCL.out, HL.out]
          have d1 : ¬ ((256 : Nat) : Int) ≤ 255 := by omega
          have hbz := HB.out.trans ((HB6.out.trans (hb.mono HB6.out.size)).mono HB.out.size)
          clear hb
          trace "S6"
          go_wp2_with fail
          go_ret
          exact ⟨by simp, hbz⟩
end Go.Proofs.Ytphhdkffnboboaa

namespace Go.Proofs.Ytphhdkffnboboaa
open Go.ChangeShapes Go.WideShapes Go.ChangeAt Go.RowKit Go.Shelf
open Go.Lib

set_option maxRecDepth 100000 in
theorem rs_of_trod2 {H : Type} {enc : TypeId × Value → H} {W : World} {n : Nat} {v : Value} {x : DataW H × List MemPlace} (hf : DataW.trod enc Try.prog W 0 (fun _ => true) true n 36 [v] = some x) :
    ∃ A c xs, v = .slice A (List.length xs) c ∧ RS W W.heap.size A c xs ∧ Fw A c := by
  rcases Go.Deep.open_slice_pairs Try.underlying36 Try.underlying40 (by kernel_rfl) rfl rfl (by kernel_rfl) (by kernel_rfl) hf with ⟨hcs, _⟩ | ⟨x, len, c, m, n, V0, V1, D0, D1, P0, P1, hcs, _, hl, hm, hmm, _, hcell⟩
  · simp at hcs
    exact ⟨none, 0, [], hcs, by refine ⟨Nat.le_refl _, Nat.zero_le _, by simp, fun h => absurd rfl h⟩, fun _ => rfl⟩
  · simp at hcs
    have hlm : len ≤ m := by rw [hmm]; simpa using hl
    have hint : ∀ i, i < len → ∃ q : Int × Int, V0 i = .int .i32 q.1 ∧ V1 i = .int .i32 q.2 ∧ I32 q := fun i hi => by
      obtain ⟨_, _, h0, h1⟩ := hcell i (by omega)
      obtain ⟨z0, e0, _, w0⟩ := DataW.trod_int Try.underlying21 h0
      obtain ⟨z1, e1, _, w1⟩ := DataW.trod_int Try.underlying21 h1
      have b0 : -2147483648 ≤ z0 ∧ z0 ≤ 2147483647 := by simpa [Lit.wf, IntKind.min, IntKind.max, IntKind.signed, IntKind.bits] using w0
      have b1 : -2147483648 ≤ z1 ∧ z1 ≤ 2147483647 := by simpa [Lit.wf, IntKind.min, IntKind.max, IntKind.signed, IntKind.bits] using w1
      exact ⟨(z0, z1), by simpa using e0, by simpa using e1, by unfold I32; exact ⟨b0.1, b0.2, b1.1, b1.2⟩⟩
    obtain ⟨q, hq⟩ := Go.Deep.choose_lt hint
    have hlen : ((List.range len).map q).length = len := by simp
    refine ⟨some x, c, (List.range len).map q, by rw [hlen]; exact hcs, ⟨by rw [hlen]; exact hl, hm, fun y hy => ?_, fun hn => ?_⟩, fun h => by cases h⟩
    · obtain ⟨i, hi, rfl⟩ := List.mem_map.1 hy
      exact (hq i (List.mem_range.1 hi)).2.2
    · have h0 : 0 < len := by
        rcases Nat.eq_zero_or_pos len with e | e
        · subst e; exact absurd rfl hn
        · exact e
      have hc := (hcell 0 (by omega)).1
      obtain ⟨b, off, spot⟩ := x
      have hspot : spot = none := by simpa [Addr.add] using World.cell?_spot hc
      subst hspot
      have hc0 : W.cell? ⟨b, off, none⟩ = some (V0 0) := by simpa [Addr.add] using hc
      refine ⟨b, off, rfl, cell_lt hc0, fun i y hy => ?_⟩
      have hi : i < len := by have := (List.getElem?_eq_some_iff.1 hy).1; omega
      simp [hi] at hy
      subst hy
      obtain ⟨c0, c1, _, _⟩ := hcell i (by omega)
      obtain ⟨e0, e1, _⟩ := hq i hi
      rw [Addr.add_lit] at c0 c1
      rw [← e0, ← e1]
      exact ⟨c0, by rw [Nat.add_assoc]; exact c1⟩

set_option maxRecDepth 100000 in
theorem entries_of_arg2 {H : Type} {enc : TypeId × Value → H} {W : World} {b0 : Nat} {v : Value} {d : DataW H} {p : List MemPlace} (hv : Value.okWide Try.prog W .any b0 22 v) (h : DataW.Trod enc Try.prog W 0 (fun _ => true) true 22 v d p) :
    ∃ A c es, v = .slice A (List.length es) c ∧ ES W W.heap.size A c es ∧ ∀ e ∈ es, Fw e.A e.cap := by
  obtain ⟨a, len, cap, rfl⟩ := okWide_slice Try.underlying22 hv
  obtain ⟨fuel, hf⟩ := h
  rcases Go.Deep.open_slice_pairs Try.underlying22 Try.underlying38 (by kernel_rfl) rfl rfl (by kernel_rfl) (by kernel_rfl) hf with ⟨hcs, _⟩ | ⟨x, l, c, m, n, V0, V1, D0, D1, P0, P1, hcs, _, hl, hm, hmm, _, hcell⟩
  · simp [Value.cells] at hcs
    obtain ⟨rfl, rfl, rfl⟩ := hcs
    exact ⟨none, 0, [], rfl, by refine ⟨Nat.le_refl _, Nat.zero_le _, by simp, fun h => absurd rfl h⟩, by simp⟩
  · simp [Value.cells] at hcs
    obtain ⟨rfl, rfl, rfl⟩ := hcs
    have hlm : len ≤ m := by rw [hmm]; simpa using hl
    have hint : ∀ i, i < len → ∃ q : En, V0 i = .slice q.A q.xs.length q.cap ∧ V1 i = .int .i64 q.c ∧ RS W W.heap.size q.A q.cap q.xs ∧ Fw q.A q.cap := fun i hi => by
      obtain ⟨_, _, h0, h1⟩ := hcell i (by omega)
      obtain ⟨A, c, xs, e0, hR, hFw⟩ := rs_of_trod2 h0
      obtain ⟨z1, e1, _, w1⟩ := DataW.trod_int Try.underlying3 h1
      exact ⟨⟨A, c, xs, z1⟩, e0, by simpa using e1, hR, hFw⟩
    obtain ⟨q, hq⟩ := Go.Deep.choose_lt hint
    have hlen : ((List.range len).map q).length = len := by simp
    refine ⟨some x, cap, (List.range len).map q, by rw [hlen], ⟨by rw [hlen]; exact hl, hm, fun y hy => ?_, fun hn => ?_⟩, fun y hy => ?_⟩
    · obtain ⟨i, hi, rfl⟩ := List.mem_map.1 hy
      exact (hq i (List.mem_range.1 hi)).2.2.1
    · have h0 : 0 < len := by
        rcases Nat.eq_zero_or_pos len with e | e
        · subst e; exact absurd rfl hn
        · exact e
      have hc := (hcell 0 (by omega)).1
      obtain ⟨b, off, spot⟩ := x
      have hspot : spot = none := by simpa [Addr.add] using World.cell?_spot hc
      subst hspot
      have hc0 : W.cell? ⟨b, off, none⟩ = some (V0 0) := by simpa [Addr.add] using hc
      refine ⟨b, off, rfl, cell_lt hc0, fun i y hy => ?_⟩
      have hi : i < len := by have := (List.getElem?_eq_some_iff.1 hy).1; omega
      simp [hi] at hy
      subst hy
      obtain ⟨c0, c1, _, _⟩ := hcell i (by omega)
      obtain ⟨e0, e1, _⟩ := hq i hi
      rw [Addr.add_lit] at c0 c1
      rw [← e0, ← e1]
      exact ⟨c0, by rw [Nat.add_assoc]; exact c1⟩
    · obtain ⟨i, hi, rfl⟩ := List.mem_map.1 hy
      exact (hq i (List.mem_range.1 hi)).2.2.2
def EsW (w : World) (A : Option Addr) (cap : Nat) (es : List En) : Prop := ES w w.heap.size A cap es ∧ ∀ e ∈ es, Fw e.A e.cap
theorem tsets_walk (o : Int) (_o0 : -9223372036854775808 ≤ o) (_o1 : o ≤ 9223372036854775807) (A : Option Addr) (cap : Nat) (es : List En) (w : World) (h : ES w w.heap.size A cap es ∧ ∀ e ∈ es, Fw e.A e.cap) (c : Int) (_c0 : -9223372036854775808 ≤ c) (_c1 : c ≤ 9223372036854775807) :
    Calls Try.prog 5 #[.int .i64 o, .slice A es.length cap, .int .i64 c] w fun e w' => e = .returned (.bool true) ∧ Below w.heap.size w w' :=
  tsets_any o A cap es c w h.1 h.2
end Go.Proofs.Ytphhdkffnboboaa

