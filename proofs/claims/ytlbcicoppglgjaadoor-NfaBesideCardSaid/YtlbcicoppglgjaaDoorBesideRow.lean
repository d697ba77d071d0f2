/-
  NfaBeside HOLDS: for every input, in whatever memory in which the listed table reads as the library lays it, the law returns true and leaves its arguments as they were. The row; the card that ties the table to the program's text.
-/
import Derived.Lay
import Derived.LaidOnce
import Derived.LaidMore
import Derived.ChangeOld
import Derived.SevenTiedAt
import Derived.Test.YtlbcicoppglgjaaDoorCards
import Derived.Test.YtlbcicoppglgjaaDoorTie
import Derived.Test.YtlbcicoppglgjaaDoorLdN
import Derived.Test.YtlbcicoppglgjaaDoorArg
import Derived.Test.YtlbcicoppglgjaaDoorBsm
namespace Go.Proofs.YtlbcicoppglgjaaDoor
open Go.ChangeShapes Go.WideShapes Go.ChangeAt Go.RowKit Go.Shelf
open Go.Lib

theorem beside_any (se : Bool) (l m : List E) (zs : List Int) (Al Am Az : Option Addr) (cl cm cz : Nat) (w : World) (h : BArg w l m zs Al Am Az cl cm cz) :
    Calls Tryd.prog 7 #[.bool se, .slice Al l.length cl, .slice Am m.length cm, .slice Az zs.length cz] w (UOk w) := by
  by_cases h1 : 80 < szL l
  · exact beside_b1 se l m zs Al Am Az cl cm cz w h h1
  · have g1 : szL l ≤ 80 := by omega
    by_cases h2 : 80 < szL m
    · exact beside_b2 se l m zs Al Am Az cl cm cz w h g1 h2
    · have g2 : szL m ≤ 80 := by omega
      by_cases h3 : 40 < l.length + m.length
      · exact beside_b3 se l m zs Al Am Az cl cm cz w h g1 ⟨g2, h3⟩
      · have g3 : l.length + m.length ≤ 40 := by omega
        by_cases h4 : 12 < zs.length
        · exact beside_b4 se l m zs Al Am Az cl cm cz w h g1 ⟨g2, g3, h4⟩
        · have g4 : zs.length ≤ 12 := by omega
          cases hl : (l.all rightE && decide (l.length ≤ 40)) with
          | false => exact beside_w1 se l m zs Al Am Az cl cm cz w h g1 ⟨g2, g3, g4, hl⟩
          | true =>
            cases hm : (m.all rightE && decide (m.length ≤ 40)) with
            | false => exact beside_w2 se l m zs Al Am Az cl cm cz w h g1 ⟨g2, g3, g4, hl, hm⟩
            | true =>
              simp only [Bool.and_eq_true, decide_eq_true_eq] at hl hm
              exact beside_main se l m zs Al Am Az cl cm cz w h g1 ⟨g2, g3, g4, hl.1, hm.1⟩

set_option maxRecDepth 100000 in
theorem beside_lifted (os : Os) (started : os.Started) (H : Type) (enc : TypeId × Value → H) :
    ReturnsInHanded {} Tryd.checked os 7 .any (fun w args => (Rows.nfaBesideSpec.pre enc Tryd.prog Tryd.f7 [] false w args ∧ laidMetH Tryd.prog laidBits w) ∧ sizedMet enc Tryd.prog Tryd.f7 (OpenSpec.ofChange Rows.nfaBesideSpec) false w args)
      (Rows.nfaBesideSpec.post enc Tryd.prog Tryd.f7 false true false false) := by
  refine returnsInHanded_of_change_and (C := Tryd.checked) (X := fun w _ => laidMetH Tryd.prog laidBits w) (fun _ _ _ hh h => h.of_heap hh) own started (by kernel_rfl) Tryd.func7
    (ChangeSpec.witness_shaped (enc := enc) (C := Tryd.checked) (os := os) (X := fun w _ => laidMetH Tryd.prog laidBits w) false (World.laidAll Tryd.prog os laidBits) #[.bool false, .slice none 0 0, .slice none 0 0, .slice none 0 0] 8 (World.laidAll_os _ _ _)
      (World.shaped_of_ZipB (by kernel_rfl) (by kernel_rfl)) (by kernel_rfl) (by kernel_rfl) (by kernel_rfl)
      (by rw [MakeChecks.laidMetH_plain _ _ _ (by kernel_rfl)]; exact laidMet_laidAll _ (by kernel_rfl) (by kernel_rfl))) ?_
  intro W base args ds gs before hval0 hW _ _ hL _
  have hval : ∀ (j : Nat) t v, Tryd.f7.params[j]? = some t → args[j]? = some v → Value.okWide Tryd.prog W .any base t v := hval0
  have hW' := hW
  obtain ⟨p, q, hA0, hV, rfl, _, _⟩ := hW
  have hA : DataW.TrodAll enc Tryd.prog W 0 (fun _ => true) true Tryd.f7.params.toList args.toList ds p := hA0
  rw [Tryd.params7] at hA hval
  obtain ⟨v0, vs0, d0, ds0, p0, q0, hargs, rfl, rfl, h0, r0⟩ := trodAll_cons hA
  obtain ⟨v1, vs1, d1, ds1, p1, q1, rfl, rfl, rfl, h1, r1⟩ := trodAll_cons r0
  obtain ⟨v2, vs2, d2, ds2, p2, q2, rfl, rfl, rfl, h2, r2⟩ := trodAll_cons r1
  obtain ⟨v3, vs3, d3, ds3, p3, q3, rfl, rfl, rfl, h3, r3⟩ := trodAll_cons r2
  obtain ⟨rfl, rfl, rfl⟩ := trodAll_nil r3
  obtain rfl : args = #[v0, v1, v2, v3] := by cases args; simp_all
  obtain ⟨rfl, rfl⟩ := trodVars_none hV
  obtain ⟨se, rfl, rfl, rfl⟩ := open_bool Tryd.underlying4 (hval 0 4 v0 rfl rfl) h0
  have t1 := h1
  have t2 := h2
  have t3 := h3
  have lt1 : ∀ x ∈ p1, x.block < W.heap.size := by obtain ⟨m, hm⟩ := t1; exact DataW.trod_lt m _ _ _ hm
  have lt2 : ∀ x ∈ p2, x.block < W.heap.size := by obtain ⟨m, hm⟩ := t2; exact DataW.trod_lt m _ _ _ hm
  have lt3 : ∀ x ∈ p3, x.block < W.heap.size := by obtain ⟨m, hm⟩ := t3; exact DataW.trod_lt m _ _ _ hm
  obtain ⟨l, Al, cl, rfl, hk⟩ := ks_of_arg (hval 1 22 v1 rfl rfl) h1
  obtain ⟨m, Am, cm, rfl, hm⟩ := ks_of_arg (hval 2 22 v2 rfl rfl) h2
  obtain ⟨zs, Az, cz, rfl, hz, _⟩ := is_of_arg (hval 3 23 v3 rfl rfl) h3
  rw [MakeChecks.laidMetH_plain _ _ _ (by kernel_rfl)] at hL
  have hZ : TZ W := tz_of_reads (Lib.laidMet.reads hL (.head _))
  clear hA0 hval0
  refine (beside_any se l m zs Al Am Az cl cm cz W ⟨hk, hm, hz, hZ⟩).mono fun e W' ⟨he, bel⟩ => ?_
  subst he
  exact ⟨_, rfl, _, _, _, [], _, [], hW', trodAll_mk1 (shut_bool Tryd.underlying4 _), (trodAll_cons_mk (shut_bool Tryd.underlying4 _) (trodAll_cons_mk (Below.trod laidOut (by kernel_rfl) (of_decide_eq_true (by kernel_rfl)) t1 bel lt1) (trodAll_cons_mk (Below.trod laidOut (by kernel_rfl) (of_decide_eq_true (by kernel_rfl)) t2 bel lt2) (trodAll_cons_mk (Below.trod laidOut (by kernel_rfl) (of_decide_eq_true (by kernel_rfl)) t3 bel lt3) trodAll_mk0)))), rfl, bel.frame _, fun h => by cases h⟩

theorem beside_row : Rows.NfaBesideSaid :=
  OpenClaim.holds_of_wide 7 Tryd.f7 rfl rfl rfl rfl rfl rfl rfl ⟨rfl, rfl, rfl, rfl, rfl⟩ rfl rfl rfl rfl rfl (by kernel_rfl) Tryd.func7 (by kernel_rfl)
    (of_decide_eq_true (by kernel_rfl)) (by unfold Func.isWrapper; first | (rw [if_pos (by decide +kernel)]; kernel_rfl) | (rw [if_neg (by decide +kernel)]; exact ⟨rfl, rfl⟩))
    (fun os started H enc _ => beside_lifted os started H enc)

/-- THE STATEMENT. -/
theorem beside_holds : Rows.NfaBesideCardSaid :=
  Claim7.holds_tied_plain_at .later [] [.data] true (true, "5fb09bada185de421887ecf7d0e5c711d8aeac1814c104588f9baee8346305b0") false
    beside_row (fun _ h => by cases h) (by kernel_rfl) (fun _ h => by cases h) nfaBeside_row_tie rfl ⟨rfl, rfl⟩ (by kernel_rfl) rfl
    (fun f fn hf hfn => by
      obtain rfl : f = 7 := Option.some.inj ((show Tryd.prog.funcNamed Rows.nfaBesideRow.func = some 7 by kernel_rfl).symm.trans hf) |>.symm
      obtain rfl : fn = Tryd.f7 := (Option.some.inj (Tryd.func7.symm.trans hfn)).symm
      exact ⟨by kernel_rfl, fun j t ht => by
        rw [Tryd.params7] at ht
        have hm : t ∈ [4, 22, 22, 23] := by simpa using Array.mem_of_getElem? ht
        have hall : ([4, 22, 22, 23].all fun u => !Tryd.prog.wantsStandIn u) = true := by kernel_rfl
        exact (show Tryd.prog.wantsStandIn t = false by simpa using List.all_eq_true.1 hall t hm)⟩)
    (by kernel_rfl)
#print axioms beside_holds
end Go.Proofs.YtlbcicoppglgjaaDoor
