/-
  Contracts: bytes.HasPrefix, entity.style.follow.
-/
import Derived.Test.YtpimadgcojgjaaaDoorOnu
import Derived.Test.YtpimadgcojgjaaaDoorCvb
import Derived.Lib.QuietBelow
import Derived.BigQuiet
namespace Go.Proofs.YtpimadgcojgjaaaDoor
open Go.RowKit Go.Shelf Go.Lib Go.Maps Go.Great
open Go.Sort (grow)
attribute [local irreducible] NR ZNR FR nmE

theorem meas_step (a n : Nat) (h : n < a) : a - (RowKit.intOf (.int .i64 ((n : Int) + 1))).toNat < a - (RowKit.intOf (.int .i64 (n : Int))).toNat := by
  simp [RowKit.intOf]
  omega
theorem isPrefixOf_map (l m : List Nat) (hl : ∀ x ∈ l, x < 256) (hm : ∀ x ∈ m, x < 256) : (u8s l).isPrefixOf (u8s m) = l.isPrefixOf m := by
  induction l generalizing m with
  | nil => rfl
  | cons a l ih =>
    cases m with
    | nil => rfl
    | cons b m =>
      have e : (UInt8.ofNat a == UInt8.ofNat b) = (a == b) := by
        rw [Bool.eq_iff_iff]
        simp only [beq_iff_eq]
        constructor
        · intro h
          have := congrArg UInt8.toNat h
          have h1 := hl a (by simp)
          have h2 := hm b (by simp)
          simpa [Nat.mod_eq_of_lt h1, Nat.mod_eq_of_lt h2] using this
        · rintro rfl; rfl
      show (UInt8.ofNat a == UInt8.ofNat b && (u8s l).isPrefixOf (u8s m)) = (a == b && l.isPrefixOf m)
      rw [e, ih m (fun x hx => hl x (by simp [hx])) (fun x hx => hm x (by simp [hx]))]
theorem bytesOf_cast (l : List Nat) : Lib.bytesOf (l.map fun (x : Nat) => (x : Int)) = u8s l := by
  simp [Lib.bytesOf, u8s]
set_option maxHeartbeats 4000000 in
set_option maxRecDepth 100000 in
theorem hasPre_any (w : World) (xs ys : List Nat) (A : Option Addr) (cap g c2 : Nat) (hx : BY w w.heap.size xs A cap) (hy : BY w w.heap.size ys (some ⟨g, 0, none⟩) c2) (h0 : ys ≠ []) :
    Calls Tryd.prog 54 #[.slice A xs.length cap, .slice (some ⟨g, 0, none⟩) ys.length c2] w fun e w' => e = .returned (.bool (ys.isPrefixOf xs)) ∧ w' = w := by
  by_cases hl : xs.length < ys.length
  case pos =>
    have hp : ys.isPrefixOf xs = false := by
      rw [Bool.eq_false_iff]
      intro h
      have := (List.isPrefixOf_iff_prefix.1 h).length_le
      omega
    rw [hp]
    have hl2 : ¬ ys.length ≤ xs.length := by omega
    clear hx hy hp h0
    go_enter Tryd.func54, Tryd.ntmps54
    go_wp2_with fail
    go_ret
    exact ⟨rfl, rfl⟩
  case neg =>
    obtain ⟨b, o, rfl, _, hc⟩ := hx.r (by rintro rfl; simp at hl; exact h0 hl)
    obtain ⟨b2, o2, e2, _, hc2⟩ := hy.r h0
    obtain ⟨rfl, rfl⟩ : g = b2 ∧ 0 = o2 := by simpa using e2
    have C := Tryd.bytes_HasPrefix b o xs.length cap g 0 ys.length c2 (xs.map fun (x : Nat) => (x : Int)) (ys.map fun (x : Nat) => (x : Int)) w (by simp) (by simp) hx.l
      (fun i hi => by rw [hc i _ (List.getElem?_eq_getElem hi)]; simp [List.getD_eq_getElem?_getD, hi])
      (fun i hi => by rw [hc2 i _ (List.getElem?_eq_getElem hi)]; simp [List.getD_eq_getElem?_getD, hi])
    rw [bytesOf_cast, bytesOf_cast, Lib.hasPrefix, isPrefixOf_map _ _ hy.i hx.i] at C
    exact C
/-- How far bytes go on as a style has it, and whether they are whole. -/
def fol (may : List Nat → Nat → Bool) (xs : List Nat) (h : Nat) : Nat → List Nat → Nat × Bool
  | n, [] => (n, false)
  | n, c :: r => if may ((xs.take n).drop h) c then (if c = 59 then (n + 1, true) else fol may xs h (n + 1) r) else (n, false)
def followR (beg : List UInt8) (may : List Nat → Nat → Bool) (xs : List Nat) : Nat × Bool := if (nats beg).isPrefixOf xs then fol may xs beg.length beg.length (xs.drop beg.length) else (0, false)
theorem BY.win {w : World} {B : Nat} {xs : List Nat} {b o cap : Nat} (h : BY w B xs (some ⟨b, o, none⟩) cap) (l k : Nat) (hl : l ≤ k) (hk : k ≤ xs.length) : BY w B ((xs.take k).drop l) (some ⟨b, o + l, none⟩) (cap - l) :=
  ⟨(by have hh := h.l; simp; omega), (by have hh := h.m; omega), fun e => (by cases e), fun x hx => h.i x (List.mem_of_mem_take (List.mem_of_mem_drop hx)), fun hne => by
    obtain ⟨b', o', e, hlt, hr⟩ := h.r (by rintro rfl; simp at hne)
    obtain ⟨rfl, rfl⟩ : b = b' ∧ o = o' := by simpa using e
    exact ⟨b, o + l, rfl, hlt, fun i x hx => by
      rw [List.getElem?_drop, List.getElem?_take] at hx
      split at hx
      · rw [Nat.add_assoc]
        exact hr _ x hx
      · cases hx⟩⟩
theorem slice_win (b o len cap l h : Nat) (hlh : l ≤ h) (hh : h ≤ cap) (hc : l < cap) (W : World) :
    (Instr.slice 22 (.slice (some ⟨b, o, none⟩) len cap) (some (.int .i64 (l : Int))) (some (.int .i64 (h : Int))) none).run Tryd.prog W = .ok (.slice (some ⟨b, o + l, none⟩) (h - l) (cap - l)) W := by
  have ht : Tryd.prog.underlying 22 = some (.slice 5) := Tryd.underlying22
  have ht' : Tryd.prog.underlying 22 = some (.slice (Tryd.prog.elem 22)) := by simp [Program.elem, ht]
  have he : Tryd.prog.elem 22 = 5 := by simp [Program.elem, ht]
  have hz : ∀ w, (Go.sizeOf 5).run Tryd.prog w = .ok 1 w := fun w => by kernel_rfl
  rw [run_slice_lh W 22 _ _ _ ht' .i64 .i64 _ _ (by omega) (by omega) (by omega), he, hz]
  have hne : ¬ cap = l := by omega
  by_cases h0 : l = 0
  · subst h0
    simp [Result.andThen, sliced, Addr.add, hne]
  · simp [Result.andThen, sliced, Addr.add, hne, h0]
theorem fol_at {may : List Nat → Nat → Bool} {xs : List Nat} {h n c : Nat} (hx : xs[n]? = some c) : fol may xs h n (xs.drop n) = if may ((xs.take n).drop h) c then (if c = 59 then (n + 1, true) else fol may xs h (n + 1) (xs.drop (n + 1))) else (n, false) := by
  rw [drop_at hx, fol]
set_option maxHeartbeats 4000000 in
set_option maxRecDepth 100000 in
theorem follow67_any (w : World) (beg : List UInt8) (h1 : 1 ≤ beg.length) (h3 : beg.length ≤ 3) (may : List Nat → Nat → Bool) (pm pb : Addr) (f2 : FuncId) (c2 : Array Value) (xs : List Nat) (A : Option Addr) (cap : Nat) (hx : BY w w.heap.size xs A cap)
    (K : ∀ W, Below w.heap.size w W → ∀ b o cap' l (c : Nat), c < 256 → BY W W.heap.size l (some ⟨b, o, none⟩) cap' → Calls Tryd.prog 67 #[.slice (some ⟨b, o, none⟩) l.length cap', .int .u8 (c : Int), .pointer (some pm), .pointer (some pb)] W fun e w' => e = .returned (.bool (may l c)) ∧ Below W.heap.size W w') :
    Calls Tryd.prog 35 #[.agg #[.string ⟨beg.toArray⟩, .func (Fn.func 67) #[] #[.pointer (some pm), .pointer (some pb)], .func (Fn.func f2) #[] c2], .slice A xs.length cap] w fun e w' => e = .returned (.tuple #[.int .i64 ((followR beg may xs).1 : Nat), .bool (followR beg may xs).2]) ∧ Below w.heap.size w w' := by
  have b1 := below_new w (.cells #[.string ⟨beg.toArray⟩, .func (Fn.func 67) #[] #[.pointer (some pm), .pointer (some pb)], .func (Fn.func f2) #[] c2] 61)
  obtain ⟨cp, W4, hcv0, hR, hb4⟩ := conv_str (w.alloc (.cells #[.string ⟨beg.toArray⟩, .func (Fn.func 67) #[] #[.pointer (some pm), .pointer (some pb)], .func (Fn.func f2) #[] c2] 61)) beg (by omega)
  have hcv : (convert 9 22 (.string ⟨beg.toArray⟩)).run Tryd.prog (w.alloc (.cells #[.string ⟨beg.toArray⟩, .func (Fn.func 67) #[] #[.pointer (some pm), .pointer (some pb)], .func (Fn.func f2) #[] c2] 61)) = _ := hcv0
  have hsz : (w.alloc (.cells #[.string ⟨beg.toArray⟩, .func (Fn.func 67) #[] #[.pointer (some pm), .pointer (some pb)], .func (Fn.func f2) #[] c2] 61)).heap.size = w.heap.size + 1 := by simp
  rw [hsz] at hcv hR
  have hb : Below w.heap.size w W4 := b1.trans (hb4.mono (by simp))
  have x0 := (cells_new w #[.string ⟨beg.toArray⟩, .func (Fn.func 67) #[] #[.pointer (some pm), .pointer (some pb)], .func (Fn.func f2) #[] c2] 61).on hb4
  have P := hasPre_any W4 xs (nats beg) A cap _ cp (hx.on hb) hR.by (by intro e; have := congrArg List.length e; rw [nats_len] at this; simp at this; subst this; simp at h1)
  obtain ⟨hl, hhl⟩ : ∃ n, beg.length = n := ⟨_, rfl⟩
  rw [nats_len, hhl] at P
  rw [hhl] at hcv
  obtain ⟨FR, hFR⟩ : ∃ v, followR beg may xs = v := ⟨_, rfl⟩
  rw [hFR]
  have HH := Lib.hid (And.intro P (And.intro hb (And.intro x0 (And.intro hFR (And.intro hx (And.intro K (And.intro h1 h3)))))))
  clear P hb x0 hFR hx K hb4 b1 hR hcv0 hsz
  go_enter Tryd.func35, Tryd.ntmps35
  go_wp2_with fail
  refine HH.out.1.mono ?_
  rintro e w1 ⟨rfl, rfl⟩
  have q0 := HH.out.2.2.1.cell 0
  have q1 := HH.out.2.2.1.cell 1
  simp at q0 q1
  cases hp : (nats beg).isPrefixOf xs with
  | false =>
    have HP := Lib.hid hp
    clear hp
    go_wp2_with fail
    have hf : FR = (0, false) := by rw [← HH.out.2.2.2.1, followR, HP.out]; rfl
    refine bodyPost_ret (v := .tuple #[.int .i64 0, .bool false]) ?_ rfl ⟨by rw [hf]; rfl, HH.out.2.1⟩
    simp [results, Tryd.results35, go_sem]
  | true =>
    have hle : hl ≤ xs.length := by
      have := (List.isPrefixOf_iff_prefix.1 hp).length_le
      rw [nats_len] at this
      omega
    have hf : FR = fol may xs hl hl (xs.drop hl) := by rw [← HH.out.2.2.2.1, followR, hp, hhl]; rfl
    have HP := Lib.hid (And.intro hf hle)
    clear hp hf hle
    go_wp2_with fail
    go_loopw [6] (fun r wr => ∃ n : Nat, r = .int .i64 (n : Int) ∧ hl ≤ n ∧ n ≤ xs.length ∧ FR = fol may xs hl n (xs.drop n) ∧ Below w1.heap.size w1 wr) (fun r _ => xs.length - (RowKit.intOf r).toNat)
    case atStart => exact ⟨hl, rfl, Nat.le_refl _, HP.out.2, HP.out.1, Below.refl _ _⟩
    case round =>
      obtain ⟨n, rfl, hn1, hn2, hfr, hb⟩ := hrel
      have xr : Cells wr w.heap.size 61 _ := (hb.block _ HH.out.2.2.1.lt).trans HH.out.2.2.1
      have bw : Below w.heap.size w wr := HH.out.2.1.trans (hb.mono HH.out.2.1.size)
      have g0 := xr.cell 0
      have g1 := xr.cell 1
      simp at g0 g1
      by_cases hlt : n < xs.length
      case neg =>
        have hn : n = xs.length := by omega
        have hf : FR = (n, false) := by rw [hfr, List.drop_of_length_le (by omega)]; rfl
        have i1 : ¬ (n : Int) < (xs.length : Int) := by omega
        have i2 : decide ((n : Int) < (xs.length : Int)) = false := by simpa using i1
        have HK := Lib.hid (And.intro hf bw)
        clear hn hfr hf hb xr bw hn1 hn2 q0 q1
        go_wp2_with go_quiet (fail)
        refine bodyPost_ret (v := .tuple #[.int .i64 (n : Int), .bool false]) ?_ rfl ⟨by rw [HK.out.1], below_drewN HK.out.2 _⟩
        simp [results, Tryd.results35, go_sem]
      case pos =>
        obtain ⟨c, hc⟩ := at_lt hlt
        obtain ⟨b, o, rfl, hbl, hcell⟩ := HH.out.2.2.2.2.1.at hc
        have d0 := (bw.cell (p := ⟨b, o + n, none⟩) hbl).trans hcell
        have hc256 := HH.out.2.2.2.2.1.lt hc
        have hcap := HH.out.2.2.2.2.1.l
        have i1 : (n : Int) < (xs.length : Int) := by omega
        have hsl := slice_win b o xs.length cap hl n hn1 (by omega) (by omega)
        have hbl2 : ((xs.take n).drop hl).length = n - hl := by simp; omega
        have C : ∀ d os, Calls Tryd.prog 67 #[.slice (some ⟨b, o + hl, none⟩) (n - hl) (cap - hl), .int .u8 (c : Int), .pointer (some pm), .pointer (some pb)] (grow (redrawn wr d) os) fun e w'' => e = .returned (.bool (may ((xs.take n).drop hl) c)) ∧ ∃ p : Regrown, w'' = grow (redrawn wr p.d) p.os := fun d os => by
          have bd := bw.trans ((below_regrown wr d os).mono bw.size)
          have := HH.out.2.2.2.2.2.1 (grow (redrawn wr d) os) bd b (o + hl) (cap - hl) ((xs.take n).drop hl) c hc256 ((HH.out.2.2.2.2.1.win hl n hn1 hn2).on bd)
          rw [hbl2] at this
          exact Calls.regrown_of this
        have hfr2 := hfr.trans (fol_at hc)
        have HK := Lib.hid (And.intro hb (And.intro hfr2 (And.intro bw (And.intro hc (And.intro hn1 hlt)))))
        have z0 := cell_regrown g0
        have z1 := cell_regrown g1
        have z2 := cell_regrown d0
        cases hm : may ((xs.take n).drop hl) c with
        | false =>
          rw [hm] at C
          have HM := Lib.hid hm
          clear hm hfr hfr2 hb bw hc256 hcap hc hbl2 hcell xr q0 q1 g0 g1 d0
          go_wp2_with fail
          refine wp_region_quiet_below (by kernel_rfl) (by kernel_rfl) ?_
          repeat (go_big_quiet_step (exact C _ _))
          refine wpQuiet_nil ?_
          intro _ hw'
          obtain ⟨⟨dq, osq⟩, hw''⟩ := hw'
          subst hw''
          have HB := Lib.hid (HK.out.2.2.1.trans ((below_regrown wr dq osq).mono HK.out.2.2.1.size))
          clear z0 z1 z2 C
          go_wp2_with fail
          have hf : FR = (n, false) := by rw [HK.out.2.1, HM.out]; rfl
          refine bodyPost_ret (v := .tuple #[.int .i64 (n : Int), .bool false]) ?_ rfl ⟨by rw [hf], HB.out⟩
          simp [results, Tryd.results35, go_sem]
        | true =>
          rw [hm] at C
          have HM := Lib.hid hm
          clear hm hfr hfr2 hb bw hc256 hcap hc hbl2 hcell xr q0 q1 g0 g1
          go_wp2_with fail
          refine wp_region_quiet_below (by kernel_rfl) (by kernel_rfl) ?_
          repeat (go_big_quiet_step (exact C _ _))
          refine wpQuiet_nil ?_
          intro _ hw'
          obtain ⟨⟨dq, osq⟩, hw''⟩ := hw'
          subst hw''
          have HB := Lib.hid (HK.out.2.2.1.trans ((below_regrown wr dq osq).mono HK.out.2.2.1.size))
          have z3 := cell_regrown d0 dq osq
          have hb5 := Lib.hid (HK.out.1.trans ((below_regrown wr dq osq).mono HK.out.1.size))
          have hlen := HH.out.2.2.2.2.1.len
          have w1 : wrap64 ((n : Int) + 1) = (n : Int) + 1 := by unfold wrap64; omega
          have w2 : wrap64 (n : Int) = (n : Int) := by unfold wrap64; omega
          clear z0 z1 z2 C d0 hlen
          by_cases hcc : c = 59
          case pos =>
            subst hcc
            have hf : FR = (n + 1, true) := by rw [HK.out.2.1, HM.out]; rfl
            have HF := Lib.hid hf
            clear hf
            go_wp2_with fail
            refine bodyPost_ret (v := .tuple #[.int .i64 (n + 1 : Int), .bool true]) ?_ rfl ⟨by rw [HF.out]; rfl, HB.out⟩
            simp [results, Tryd.results35, go_sem]
          case neg =>
            have hc1 : ¬ (c : Int) = 59 := by omega
            have hc2 : ((c : Int) == 59) = false := by simp; omega
            have hf : FR = fol may xs hl (n + 1) (xs.drop (n + 1)) := by rw [HK.out.2.1, HM.out, if_pos rfl, if_neg hcc]
            have HF := Lib.hid hf
            clear hf
            go_wp2_with fail
            go_roundw
            case rel => exact ⟨n + 1, by go_num, Nat.le_succ_of_le HK.out.2.2.2.2.1, HK.out.2.2.2.2.2, HF.out, hb5.out⟩
            case measure =>
              rw [w1]
              exact meas_step xs.length n HK.out.2.2.2.2.2
end Go.Proofs.YtpimadgcojgjaaaDoor
