/-
  The walk of PackPacks.
-/
import Derived.Test.YtadipgkgllcicaaRpk
import Derived.Test.YtadipgkgllcicaaRfr
import Derived.Deep.RegionWith
namespace Go.Proofs.Ytadipgkgllcicaa
open Go.RowKit Go.Shelf Go.Lib Go.Maps Go.Sort

set_option maxHeartbeats 8000000 in
set_option maxRecDepth 100000 in
theorem packsLaw_any (width : Int) (hw : i64 width) (R : List (List Int)) (A : Option Addr) (cap : Nat) (w : World) (hR : RsAt w w.heap.size R A cap) :
    Calls Try.prog 3 #[.int .i64 width, .slice A R.length cap] w fun r w' => r = .returned (.bool true) ∧ Below w.heap.size w w' := by
  have hl : R.length ≤ 9223372036854775807 := by have := hR.l; have := hR.m; unfold maxLen at this; omega
  obtain ⟨N, hN⟩ : ∃ N, R.length = N := ⟨_, rfl⟩
  have CGr := great_any R A cap w hR
  obtain ⟨g, hg⟩ : ∃ g, greatB R = g := ⟨_, rfl⟩
  rw [hg, hN] at CGr
  have CA := fun w' => awake_any w'
  have CP := fun w' (hb' : Below w.heap.size w w') => pack_any width hw R A cap w' (hR.on hb')
  have CQ := fun w' (hb' : Below w.heap.size w w') => refRight_any width hw R A cap w' (hR.on hb')
  have CF := fun w' (hb' : Below w.heap.size w w') (hok : packB width R = true) => refPack_any width R A cap w' (hR.on hb') hok
  rw [hN] at CP CQ CF
  have H := Lib.hid (And.intro hR (And.intro hN hw))
  have HGr := Lib.hid CGr
  have HA := Lib.hid CA
  have HP := Lib.hid CP
  have HQ := Lib.hid CQ
  have HF := Lib.hid CF
  rw [hN] at hl ⊢
  clear hR hN CGr hg CA CP CQ CF
  unfold i64 at hw
  cases g
  case true =>
    go_enter Try.func3, Try.ntmps3
    go_wp2_with fail
    refine HGr.out.mono ?_
    rintro r w1 ⟨rfl, e⟩
    obtain rfl := e.symm
    clear e
    go_wp2_with fail
    refine (HA.out _).mono ?_
    rintro r w2 ⟨rfl, hb2⟩
    have HB := Lib.hid hb2
    clear hb2
    go_wp2_with fail
    go_ret
    exact ⟨rfl, HB.out⟩
  case false =>
    go_enter Try.func3, Try.ntmps3
    go_wp2_with fail
    refine HGr.out.mono ?_
    rintro r w1 ⟨rfl, e⟩
    obtain rfl := e.symm
    clear e
    go_wp2_with fail
    refine (HA.out _).mono ?_
    rintro r w2 ⟨rfl, hb2⟩
    have HB := Lib.hid hb2
    clear hb2
    go_wp2_with fail
    refine (HP.out w2 HB.out).mono ?_
    rintro r w3 ⟨hb3, hcase⟩
    have B3 := HB.out.trans (hb3.mono HB.out.size)
    have HB3 := Lib.hid B3
    clear hb3 B3
    rcases hcase with ⟨hok, v, rfl, hv⟩ | ⟨hno, rfl⟩
    case inr =>
      have hno' := Lib.hid hno
      clear hno
      unfold zeroPk
      obtain ⟨W4, hW4⟩ : ∃ W, w3.alloc (.cells #[.int .i64 0, .slice none 0 0, .slice none 0 0, .slice none 0 0, .slice none 0 0] 27) = W := ⟨_, rfl⟩
      have B4 : Below w.heap.size w W4 := by rw [← hW4]; exact HB3.out.alloc HB3.out.size _
      have x4 : Cells W4 w3.heap.size 27 #[.int .i64 0, .slice none 0 0, .slice none 0 0, .slice none 0 0, .slice none 0 0] := by rw [← hW4]; exact cells_new _ _ _
      have CQ4 := HQ.out W4 B4
      rw [hno'.out] at CQ4
      have q0 := x4.cell 0
      have q1 := x4.cell 1
      have q2 := x4.cell 2
      have q3 := x4.cell 3
      have q4 := x4.cell 4
      simp at q0 q1 q2 q3 q4
      have HC := Lib.hid (And.intro CQ4 (And.intro B4 hW4))
      clear CQ4 B4 hW4 x4
      go_wp2_with fail
      rw [HC.out.2.2]
      refine HC.out.1.mono ?_
      rintro r w5 ⟨rfl, e⟩
      obtain rfl := e.symm
      clear e
      go_wp2_with fail
      go_ret
      exact ⟨rfl, HC.out.2.1⟩
    case inl =>
      obtain ⟨p, hp⟩ : ∃ p, packR width R = p := ⟨_, rfl⟩
      obtain ⟨k1, -⟩ := packed_ok hok
      rw [hp] at k1 hv
      have hok2 : okPk p = true := okPk_iff.2 k1
      obtain ⟨px, A1, n1, c1, A2, n2, c2, A3, n3, c3, A4, n4, c4, rfl, -⟩ := pk_lens hv
      obtain ⟨W4, hW4⟩ : ∃ W, w3.alloc (.cells #[Value.int .i64 px, .slice A1 n1 c1, .slice A2 n2 c2, .slice A3 n3 c3, .slice A4 n4 c4] 27) = W := ⟨_, rfl⟩
      have b4 : Below w3.heap.size w3 W4 := by rw [← hW4]; exact below_new _ _
      have x4 : Cells W4 w3.heap.size 27 #[Value.int .i64 px, .slice A1 n1 c1, .slice A2 n2 c2, .slice A3 n3 c3, .slice A4 n4 c4] := by rw [← hW4]; exact cells_new _ _ _
      have B4 := HB3.out.trans (b4.mono HB3.out.size)
      have CQ4 := HQ.out W4 B4
      rw [hok] at CQ4
      have CF4 := HF.out W4.drew B4.drew hok
      rw [hp] at CF4
      have HV := Lib.hid (And.intro (hv.on b4) (And.intro B4 (And.intro x4 (And.intro hok2 CF4))))
      have q0 := x4.cell 0
      have q1 := x4.cell 1
      have q2 := x4.cell 2
      have q3 := x4.cell 3
      have q4 := x4.cell 4
      simp at q0 q1 q2 q3 q4
      have HC := Lib.hid (And.intro CQ4 hW4)
      have zx := x4.lt
      clear CQ4 hW4 hv b4 B4 x4 hok2 CF4 hok k1 hp
      go_wp2_with fail
      rw [HC.out.2]
      refine HC.out.1.mono ?_
      rintro r w5 ⟨rfl, e⟩
      obtain rfl := e.symm
      clear e
      go_wp2_with fail
      go_region_with (first
        | (go_at_call 13
           refine HV.out.2.2.2.2.mono ?_
           rintro r w6 ⟨⟨v6, rfl, hv6⟩, hb6⟩
           have b6 : Below W4.heap.size W4 w6 := (Below.refl _ _).drew.trans hb6
           have x6 := HV.out.2.2.1.on b6
           have y0 := x6.cell 0
           have y1 := x6.cell 1
           have y2 := x6.cell 2
           have y3 := x6.cell 3
           have y4 := x6.cell 4
           simp at y0 y1 y2 y3 y4
           have CI := pkIs_any (HV.out.1.on b6) hv6
           rw [sameB_self] at CI
           have zx6 := x6.lt
           have HI := Lib.hid (And.intro CI (And.intro b6 x6))
           clear hb6 b6 x6 CI hv6)
        | (go_at_call 12
           refine HI.out.1.mono ?_
           rintro r w7 ⟨rfl, hb7⟩
           have b7 := HI.out.2.1.trans (hb7.mono HI.out.2.1.size)
           have x7 := HI.out.2.2.on hb7
           have u0 := x7.cell 0
           have u1 := x7.cell 1
           have u2 := x7.cell 2
           have u3 := x7.cell 3
           have u4 := x7.cell 4
           simp at u0 u1 u2 u3 u4
           have CRt := right_any (HV.out.1.on b7)
           rw [HV.out.2.2.2.1] at CRt
           have zx7 := x7.lt
           have HRt := Lib.hid (And.intro CRt b7)
           clear hb7 b7 x7 CRt)
        | (go_at_call 14
           refine HRt.out.1.mono ?_
           rintro r w8 ⟨rfl, hb8⟩
           have HB8 := Lib.hid (HV.out.2.1.trans ((HRt.out.2.trans (hb8.mono HRt.out.2.size)).mono HV.out.2.1.size))
           clear hb8))
      all_goals
        go_wp2_with fail
        go_ret
        exact ⟨rfl, HB8.out⟩
end Go.Proofs.Ytadipgkgllcicaa
