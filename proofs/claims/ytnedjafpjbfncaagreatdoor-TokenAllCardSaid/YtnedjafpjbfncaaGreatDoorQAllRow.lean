/-
  TokenAll HOLDS: of any bytes the tokens are the document's: for every input, in whatever memory in which the listed tables read as the library lays them.
  TokenAll's walk.
-/
import Derived.Lay
import Derived.LaidOnce
import Derived.LaidMore
import Derived.ChangeOld
import Derived.ShutString
import Derived.SevenTiedAt
import Derived.Test.YtnedjafpjbfncaaGreatDoorXqa
import Derived.Test.YtnedjafpjbfncaaGreatDoorXqb
import Derived.Test.YtnedjafpjbfncaaGreatDoorXqc
import Derived.Test.YtnedjafpjbfncaaGreatDoorXqd
import Derived.Test.YtnedjafpjbfncaaGreatDoorXqe
import Derived.Test.YtnedjafpjbfncaaGreatDoorXqf
import Derived.Test.YtnedjafpjbfncaaGreatDoorXqg
import Derived.Test.YtnedjafpjbfncaaGreatDoorXqh
import Derived.Test.YtnedjafpjbfncaaGreatDoorXqi
import Derived.Test.YtnedjafpjbfncaaGreatDoorXqj
import Derived.Test.YtnedjafpjbfncaaGreatDoorXqk
import Derived.Test.YtnedjafpjbfncaaGreatDoorXql
import Derived.Test.YtnedjafpjbfncaaGreatDoorXqm
import Derived.Test.YtnedjafpjbfncaaGreatDoorCards
import Derived.Test.YtnedjafpjbfncaaGreatDoorTie
namespace Go.Proofs.YtnedjafpjbfncaaGreatDoor
open Go.RowKit Go.Shelf Go.Lib Go.Maps Go.Great
open Go.Sort (grow)
attribute [local irreducible] NR ZNR FR nmE

set_option maxHeartbeats 8000000 in
set_option maxRecDepth 100000 in
theorem allLaw (xs : List Nat) (A : Option Addr) (cap : Nat) (w : World) (hx : BY w w.heap.size xs A cap) (hM : G.MX w) (hT : S.Tabs w) (hZ : P.TZ w) :
    Calls Tryz.prog 3 #[.slice A xs.length cap] w fun e w' => e = .returned (.bool true) ∧ Below w.heap.size w w' := by
  have AW := fun W (hb : Below w.heap.size w W) => awake_any W (hM.on hM.pos hb) (hT.below hb (by have := hT.2; omega)) (hZ.below hb)
  have CA := fun (hl : xs.length ≤ 100000) W (hb : Below w.heap.size w W) => All_any xs A cap W (hx.on hb) hl (hM.on hM.pos hb) (hT.below hb (by have := hT.2; omega))
  have CR := fun (hl : xs.length ≤ 1000) W (hb : Below w.heap.size w W) => RAll_any xs A cap W (hx.on hb) hl
  obtain ⟨L, hL⟩ : ∃ L, eachL xs = L := ⟨_, rfl⟩
  simp only [hL] at CA CR
  have hlen := hx.len
  obtain ⟨N, hN⟩ : ∃ N, xs.length = N := ⟨_, rfl⟩
  rw [hN] at hlen CA CR ⊢
  have HH := Lib.hid (And.intro AW (And.intro CA CR))
  clear AW CA CR hL hx hM hT hZ
  by_cases c : 300 < N
  · have c1 : (300 : Int) < (N : Int) := by omega
    go_enter Tryz.func3, Tryz.ntmps3
    go_wp2_with fail
    refine (HH.out.1 w (Below.refl _ _)).mono ?_
    rintro e w1 ⟨rfl, hb⟩
    go_wp2_with fail
    go_ret
    exact ⟨rfl, hb⟩
  · have c1 : decide ((300 : Int) < (N : Int)) = false := by rw [decide_eq_false_iff_not]; omega
    go_enter Tryz.func3, Tryz.ntmps3
    go_wp2_with fail
    refine (HH.out.1 w (Below.refl _ _)).mono ?_
    rintro e w1 ⟨rfl, hb1⟩
    have HB1 := Lib.hid hb1
    clear hb1
    go_wp2_with fail
    refine (HH.out.2.1 (by omega) w1 HB1.out).mono ?_
    rintro e w2 ⟨v, rfl, ho, hb2⟩
    obtain ⟨A2, c2, rfl, hS⟩ := TS.of_own ho
    have HB2 := Lib.hid (And.intro hS (HB1.out.trans (hb2.mono HB1.out.size)))
    have hle := hS.le
    have hmx := hS.mx
    obtain ⟨n, hn⟩ : ∃ n, L.length = n := ⟨_, rfl⟩
    rw [hn] at hle ⊢
    clear ho hb2 hS
    go_wp2_with fail
    refine (HH.out.2.2 (by omega) w2 HB2.out.2).mono ?_
    rintro e w3 ⟨v, rfl, ho, hb3⟩
    obtain ⟨A3, c3, rfl, hF⟩ := FQ.of_own ho
    have hle3 := hF.le
    have hmx3 := hF.mx
    unfold maxLen at hmx hmx3
    rw [hn] at hle3 ⊢
    have HB3 := Lib.hid (And.intro (HB2.out.1.on hb3) (And.intro hF (And.intro (HB2.out.2.trans (hb3.mono HB2.out.2.size)) hn)))
    clear ho hb3 hF hn HB2
    go_wp2_with fail
    go_loopw [5] (fun i wr => ∃ k : Nat, i = .int .i64 (k : Int) ∧ k ≤ n ∧ Below w3.heap.size w3 wr) (fun i _ => n - (RowKit.intOf i).toNat)
    case atStart => exact ⟨0, rfl, by omega, Below.refl _ _⟩
    case round =>
      obtain ⟨k, rfl, hk, hb⟩ := hrel
      by_cases lt : k < n
      case neg =>
        have i1 : ¬ (k : Int) < (n : Int) := by omega
        have HE := Lib.hid (HB3.out.2.2.1.trans (hb.mono HB3.out.2.2.1.size))
        clear hb
        go_wp2_with fail
        go_ret
        exact ⟨rfl, HE.out⟩
      case pos =>
        have i1 : (k : Int) < (n : Int) := by omega
        obtain ⟨x, hx⟩ : ∃ x, L[k]? = some x := ⟨_, List.getElem?_eq_getElem (by rw [HB3.out.2.2.2]; exact lt)⟩
        obtain ⟨b, o, hA, _, k0, k1, k2, k3, k4, k5⟩ := (HB3.out.1.below hb).r k x hx
        obtain ⟨b', o', hA', _, m0, m1, m2, m3, m4, m5, m6⟩ := (HB3.out.2.1.below hb).r k x hx
        subst hA hA'
        have C1 : ∀ d os, Calls Tryz.prog 11 #[tokV x, refV x] (grow (redrawn wr d) os) fun e w'' => e = .returned (.bool true) ∧ ∃ p : Regrown, w'' = grow (redrawn wr p.d) p.os := fun d os => Calls.regrown_of (Is_same x _)
        unfold tokV tokC refV at C1
        obtain ⟨SN, hSN⟩ : ∃ Sx : ByteArray, ⟨(G.u8s x.name).toArray⟩ = Sx := ⟨_, rfl⟩
        rw [hSN] at C1 k3 m3
        have z0 := cell_regrown k0
        have z1 := cell_regrown k1
        have z2 := cell_regrown k2
        have z3 := cell_regrown k3
        have z4 := cell_regrown k4
        have z5 := cell_regrown k5
        have y0 := cell_regrown m0
        have y1 := cell_regrown m1
        have y2 := cell_regrown m2
        have y3 := cell_regrown m3
        have y4 := cell_regrown m4
        have y5 := cell_regrown m5
        have y6 := cell_regrown m6
        have z1' := k1
        rw [← Nat.add_assoc] at z1'
        replace z1' := cell_regrown z1'
        have z2' := k2
        rw [← Nat.add_assoc] at z2'
        replace z2' := cell_regrown z2'
        have z3' := k3
        rw [← Nat.add_assoc] at z3'
        replace z3' := cell_regrown z3'
        have z4' := k4
        rw [← Nat.add_assoc] at z4'
        replace z4' := cell_regrown z4'
        have z5' := k5
        rw [← Nat.add_assoc] at z5'
        replace z5' := cell_regrown z5'
        have y1' := m1
        rw [← Nat.add_assoc] at y1'
        replace y1' := cell_regrown y1'
        have y2' := m2
        rw [← Nat.add_assoc] at y2'
        replace y2' := cell_regrown y2'
        have y3' := m3
        rw [← Nat.add_assoc] at y3'
        replace y3' := cell_regrown y3'
        have y4' := m4
        rw [← Nat.add_assoc] at y4'
        replace y4' := cell_regrown y4'
        have y5' := m5
        rw [← Nat.add_assoc] at y5'
        replace y5' := cell_regrown y5'
        have y6' := m6
        rw [← Nat.add_assoc] at y6'
        replace y6' := cell_regrown y6'
        have HK := Lib.hid hb
        clear k0 k1 k2 k3 k4 k5 m0 m1 m2 m3 m4 m5 m6 hSN hx hb
        go_wp2_with fail
        refine wp_region_quiet_below (by kernel_rfl) (by kernel_rfl) ?_
        repeat (go_big_quiet_step (exact C1 _ _))
        refine wpQuiet_nil ?_
        intro _ hw'
        obtain ⟨⟨dq, osq⟩, hw''⟩ := hw'
        subst hw''
        have HB := Lib.hid (HK.out.trans ((below_regrown wr dq osq).mono HK.out.size))
        clear z0 z1 z2 z3 z4 z5 y0 y1 y2 y3 y4 y5 y6 z1' z2' z3' z4' z5' y1' y2' y3' y4' y5' y6' C1
        go_wp2_with fail
        exact ⟨⟨k + 1, by go_num, by omega, HB.out⟩, by simp [RowKit.intOf]; omega⟩
end Go.Proofs.YtnedjafpjbfncaaGreatDoor

namespace Go.Proofs.YtnedjafpjbfncaaGreatDoor
open Go.ChangeShapes Go.WideShapes Go.ChangeAt Go.RowKit Go.Shelf
open Go.Lib
open Go.ChangeMaps (open_string shut_string)

set_option maxRecDepth 100000 in
theorem tokenAll_lifted (os : Os) (started : os.Started) (H : Type) (enc : TypeId × Value → H) :
    ReturnsInHanded {} Tryz.checked os 3 .any (fun w args => (Rows.tokenAllSpec.pre enc Tryz.prog Tryz.f3 [] false w args ∧ laidMetH Tryz.prog laidAll8 w) ∧ sizedMet enc Tryz.prog Tryz.f3 (OpenSpec.ofChange Rows.tokenAllSpec) false w args)
      (Rows.tokenAllSpec.post enc Tryz.prog Tryz.f3 false true false false) := by
  refine handed_laid (C := Tryz.checked) (X := fun w _ => laidMetH Tryz.prog laidAll8 w) (fun _ _ _ hh h => h.of_heap hh) own started (by kernel_rfl) Tryz.func3
    (ChangeSpec.witness_shaped (enc := enc) (C := Tryz.checked) (os := os) (X := fun w _ => laidMetH Tryz.prog laidAll8 w) false (World.laidAll Tryz.prog os laidAll8) #[.slice none 0 0] 8 (World.laidAll_os _ _ _)
      (World.shaped_of_ZipB (by kernel_rfl) (by kernel_rfl)) (by kernel_rfl) (by kernel_rfl) (by kernel_rfl)
      (by rw [MakeChecks.laidMetH_plain _ _ _ (by kernel_rfl)]; exact laidMet_laidAll _ (by kernel_rfl) (by kernel_rfl))) ?_
  intro W base args ds gs before hsh hval0 hW hL _
  have hval : ∀ (j : Nat) t v, Tryz.f3.params[j]? = some t → args[j]? = some v → Value.okWide Tryz.prog W .any base t v := hval0
  have hW' := hW
  obtain ⟨p, q, hA0, hV, rfl, _, _⟩ := hW
  have hA : DataW.TrodAll enc Tryz.prog W 0 (fun _ => true) true Tryz.f3.params.toList args.toList ds p := hA0
  rw [Tryz.params3] at hA hval
  obtain ⟨v0, vs0, d0, ds0, p0, q0, hargs, rfl, rfl, h0, r0⟩ := trodAll_cons hA
  obtain ⟨rfl, rfl, rfl⟩ := trodAll_nil r0
  obtain rfl : args = #[v0] := by cases args; simp_all
  obtain ⟨rfl, rfl⟩ := trodVars_none hV
  have t0 := h0
  have lt0 : ∀ x ∈ p0, x.block < W.heap.size := by obtain ⟨m, hm⟩ := t0; exact DataW.trod_lt m _ _ _ hm
  obtain ⟨xs0, A0, cap0, rfl, hB0⟩ := by_of_arg (hval 0 22 v0 rfl rfl) h0
  rw [MakeChecks.laidMetH_plain _ _ _ (by kernel_rfl)] at hL
  have hT : S.Tabs W := tabs_of_reads (Lib.laidMet.reads hL (.tail _ (.tail _ (.tail _ (.tail _ (.tail _ (.tail _ (.tail _ (.head _))))))))) (Lib.laidMet.reads hL (.tail _ (.tail _ (.tail _ (.head _)))))
  have hZ : P.TZ W := tz_of_reads (Lib.laidMet.reads hL (.tail _ (.head _)))
  have hPT : PT W := pt_of_reads (Lib.laidMet.reads hL (.tail _ (.tail _ (.head _))))
  have hM : G.MX W := mx_of_shape hsh
  clear hA0 hval0
  refine (allLaw xs0 A0 cap0 W hB0 hM hT hZ).mono fun e W' ⟨he, bel⟩ => ?_
  subst he
  exact ⟨_, rfl, _, _, _, [], _, [], hW', trodAll_mk1 (shut_bool Tryz.underlying4 _), (trodAll_cons_mk (Below.trod laidOut (by kernel_rfl) (of_decide_eq_true (by kernel_rfl)) t0 bel lt0) trodAll_mk0), rfl, bel.frame _, fun h => by cases h⟩

theorem tokenAll_row : Rows.TokenAllSaid :=
  OpenClaim.holds_of_wide 3 Tryz.f3 rfl rfl rfl rfl rfl rfl rfl ⟨rfl, rfl, rfl, rfl, rfl⟩ rfl rfl rfl rfl rfl (by kernel_rfl) Tryz.func3 (by kernel_rfl)
    (of_decide_eq_true (by kernel_rfl)) (by unfold Func.isWrapper; first | (rw [if_pos (by decide +kernel)]; kernel_rfl) | (rw [if_neg (by decide +kernel)]; exact ⟨rfl, rfl⟩))
    (fun os started H enc _ => tokenAll_lifted os started H enc)

/-- THE STATEMENT. -/
theorem tokenAll_holds : Rows.TokenAllCardSaid :=
  Claim7.holds_tied_plain_at .later [] [.data, .data, .data, .data, .sentinel, .sentinel, .pinned, .pinned] true (true, "58902377a7983df7a674fc44eaab2a8449d52dd4ee6546e63f76fbf255702d0f") true
    tokenAll_row (fun _ h => by cases h) (by kernel_rfl) (fun _ h => by cases h) tokenAll_row_tie rfl ⟨rfl, rfl⟩ (by kernel_rfl) rfl
    (fun f fn hf hfn => by
      obtain rfl : f = 3 := Option.some.inj ((show Tryz.prog.funcNamed Rows.tokenAllRow.func = some 3 by kernel_rfl).symm.trans hf) |>.symm
      obtain rfl : fn = Tryz.f3 := (Option.some.inj (Tryz.func3.symm.trans hfn)).symm
      exact ⟨by kernel_rfl, fun j t ht => by
        rw [Tryz.params3] at ht
        have hm : t ∈ [22] := by simpa using Array.mem_of_getElem? ht
        have hall : ([22].all fun u => !Tryz.prog.wantsStandIn u) = true := by kernel_rfl
        exact (show Tryz.prog.wantsStandIn t = false by simpa using List.all_eq_true.1 hall t hm)⟩)
    (by kernel_rfl)
#print axioms tokenAll_holds
end Go.Proofs.YtnedjafpjbfncaaGreatDoor

