/-
  The walk of NfaBeside: the ways that end early.
-/
import Derived.Test.YtlbcicoppglgjaaDoorBsl
import Derived.Test.YtlbcicoppglgjaaDoorUnb
namespace Go.Proofs.YtlbcicoppglgjaaDoor
open Go.RowKit Go.Shelf Go.Lib

/-- The arguments of NfaBeside. -/
structure BArg (w : World) (l m : List E) (zs : List Int) (Al Am Az : Option Addr) (cl cm cz : Nat) : Prop where
  l : KsAt w w.heap.size l Al cl
  m : KsAt w w.heap.size m Am cm
  z : IS w w.heap.size zs Az cz
  t : TZ w
theorem BArg.below {w w' : World} {l m : List E} {zs : List Int} {Al Am Az : Option Addr} {cl cm cz : Nat} (h : BArg w l m zs Al Am Az cl cm cz) (hb : Below w.heap.size w w') : BArg w' l m zs Al Am Az cl cm cz :=
  ⟨h.l.on hb, h.m.on hb, h.z.on hb, h.t.below hb h.t.lt⟩
set_option maxHeartbeats 8000000 in
set_option maxRecDepth 100000 in
theorem beside_b1 (se : Bool) (l m : List E) (zs : List Int) (Al Am Az : Option Addr) (cl cm cz : Nat) (w : World) (h : BArg w l m zs Al Am Az cl cm cz) (hb : 80 < szL l) :
    Calls Tryd.prog 7 #[.bool se, .slice Al l.length cl, .slice Am m.length cm, .slice Az zs.length cz] w (UOk w) := by
  have C1 := great_any l Al cl w h.l
  rw [show decide (80 < szL l) = true by simpa using hb] at C1
  have C1 := Lib.hid C1
  have H := Lib.hid h
  obtain ⟨nl, hnl⟩ : ∃ n, l.length = n := ⟨_, rfl⟩
  obtain ⟨nm, hnm⟩ : ∃ n, m.length = n := ⟨_, rfl⟩
  obtain ⟨nz, hnz⟩ : ∃ n, zs.length = n := ⟨_, rfl⟩
  have HNL := Lib.hid hnl
  have HNM := Lib.hid hnm
  have HNZ := Lib.hid hnz
  rw [hnl, hnm, hnz]
  clear h hb hnl hnm hnz
  have C1 := C1.out
  rw [HNL.out] at C1
  have C1 := Lib.hid C1
  go_enter Tryd.func7, Tryd.ntmps7
  go_wp2_with fail
  refine C1.out.mono ?_
  rintro r w2 ⟨rfl, hb2⟩
  have H2 := Lib.hid (And.intro hb2 (H.out.below hb2))
  clear hb2
  go_wp2_with fail
  refine (awake_any w2 H2.out.2.t).mono ?_
  rintro r w3 ⟨rfl, hb9⟩
  have H9 := Lib.hid (H2.out.1.trans (hb9.mono H2.out.1.size))
  clear hb9
  go_wp2_with fail
  go_ret
  exact ⟨rfl, H9.out⟩
set_option maxHeartbeats 8000000 in
set_option maxRecDepth 100000 in
theorem beside_b2 (se : Bool) (l m : List E) (zs : List Int) (Al Am Az : Option Addr) (cl cm cz : Nat) (w : World) (h : BArg w l m zs Al Am Az cl cm cz) (h80 : szL l ≤ 80) (hb : 80 < szL m) :
    Calls Tryd.prog 7 #[.bool se, .slice Al l.length cl, .slice Am m.length cm, .slice Az zs.length cz] w (UOk w) := by
  have C1 := great_any l Al cl w h.l
  rw [show decide (80 < szL l) = false by simp; omega] at C1
  have C1 := Lib.hid C1
  have H := Lib.hid h
  obtain ⟨nl, hnl⟩ : ∃ n, l.length = n := ⟨_, rfl⟩
  obtain ⟨nm, hnm⟩ : ∃ n, m.length = n := ⟨_, rfl⟩
  obtain ⟨nz, hnz⟩ : ∃ n, zs.length = n := ⟨_, rfl⟩
  have HNL := Lib.hid hnl
  have HNM := Lib.hid hnm
  have HNZ := Lib.hid hnz
  rw [hnl, hnm, hnz]
  have C1 := C1.out
  rw [HNL.out] at C1
  have C1 := Lib.hid C1
  have HB := Lib.hid hb
  clear h hb h80 hnl hnm hnz
  go_enter Tryd.func7, Tryd.ntmps7
  go_wp2_with fail
  refine C1.out.mono ?_
  rintro r w2 ⟨rfl, hb2⟩
  have a2 := H.out.below hb2
  have C2 := great_any m Am cm w2 a2.m
  rw [show decide (80 < szL m) = true by simpa using HB.out, HNM.out] at C2
  have C2 := Lib.hid C2
  have H1 := Lib.hid (And.intro hb2 a2)
  clear hb2 a2
  go_wp2_with fail
  refine C2.out.mono ?_
  rintro r w3 ⟨rfl, hb3⟩
  have H2 := Lib.hid (And.intro (H1.out.1.trans (hb3.mono H1.out.1.size)) (H1.out.2.below hb3))
  clear hb3
  go_wp2_with fail
  refine (awake_any w3 H2.out.2.t).mono ?_
  rintro r w4 ⟨rfl, hb9⟩
  have H9 := Lib.hid (H2.out.1.trans (hb9.mono H2.out.1.size))
  clear hb9
  go_wp2_with fail
  go_ret
  exact ⟨rfl, H9.out⟩
set_option maxHeartbeats 8000000 in
set_option maxRecDepth 100000 in
theorem beside_b3 (se : Bool) (l m : List E) (zs : List Int) (Al Am Az : Option Addr) (cl cm cz : Nat) (w : World) (h : BArg w l m zs Al Am Az cl cm cz) (h80 : szL l ≤ 80) (hb : szL m ≤ 80 ∧ 40 < l.length + m.length) :
    Calls Tryd.prog 7 #[.bool se, .slice Al l.length cl, .slice Am m.length cm, .slice Az zs.length cz] w (UOk w) := by
  have C1 := great_any l Al cl w h.l
  rw [show decide (80 < szL l) = false by simp; omega] at C1
  have C1 := Lib.hid C1
  have H := Lib.hid h
  obtain ⟨nl, hnl⟩ : ∃ n, l.length = n := ⟨_, rfl⟩
  obtain ⟨nm, hnm⟩ : ∃ n, m.length = n := ⟨_, rfl⟩
  obtain ⟨nz, hnz⟩ : ∃ n, zs.length = n := ⟨_, rfl⟩
  have HNL := Lib.hid hnl
  have HNM := Lib.hid hnm
  have HNZ := Lib.hid hnz
  rw [hnl, hnm, hnz]
  have bl : nl ≤ 80 := by have := len_le_szL l; omega
  have bm : nm ≤ 80 := by have := len_le_szL m; omega
  have i1 : (40 : Int) < (nl : Int) + (nm : Int) := by omega
  have i1' : decide ((40 : Int) < (nl : Int) + (nm : Int)) = true := decide_eq_true i1
  have hw : wrap64 ((nl : Int) + (nm : Int)) = (nl : Int) + (nm : Int) := by unfold wrap64; omega
  have C1 := C1.out
  rw [HNL.out] at C1
  have C1 := Lib.hid C1
  have HB := Lib.hid hb
  clear h hb h80 hnl hnm hnz
  go_enter Tryd.func7, Tryd.ntmps7
  go_wp2_with fail
  refine C1.out.mono ?_
  rintro r w2 ⟨rfl, hb2⟩
  have a2 := H.out.below hb2
  have C2 := great_any m Am cm w2 a2.m
  rw [show decide (80 < szL m) = false by simp; have := HB.out; omega, HNM.out] at C2
  have C2 := Lib.hid C2
  have H1 := Lib.hid (And.intro hb2 a2)
  clear hb2 a2
  go_wp2_with fail
  refine C2.out.mono ?_
  rintro r w3 ⟨rfl, hb3⟩
  have H2 := Lib.hid (And.intro (H1.out.1.trans (hb3.mono H1.out.1.size)) (H1.out.2.below hb3))
  clear hb3
  go_wp2_with fail
  refine (awake_any w3 H2.out.2.t).mono ?_
  rintro r w4 ⟨rfl, hb9⟩
  have H9 := Lib.hid (H2.out.1.trans (hb9.mono H2.out.1.size))
  clear hb9
  go_wp2_with fail
  go_ret
  exact ⟨rfl, H9.out⟩
set_option maxHeartbeats 8000000 in
set_option maxRecDepth 100000 in
theorem beside_b4 (se : Bool) (l m : List E) (zs : List Int) (Al Am Az : Option Addr) (cl cm cz : Nat) (w : World) (h : BArg w l m zs Al Am Az cl cm cz) (h80 : szL l ≤ 80) (hb : szL m ≤ 80 ∧ l.length + m.length ≤ 40 ∧ 12 < zs.length) :
    Calls Tryd.prog 7 #[.bool se, .slice Al l.length cl, .slice Am m.length cm, .slice Az zs.length cz] w (UOk w) := by
  have C1 := great_any l Al cl w h.l
  rw [show decide (80 < szL l) = false by simp; omega] at C1
  have C1 := Lib.hid C1
  have H := Lib.hid h
  obtain ⟨nl, hnl⟩ : ∃ n, l.length = n := ⟨_, rfl⟩
  obtain ⟨nm, hnm⟩ : ∃ n, m.length = n := ⟨_, rfl⟩
  obtain ⟨nz, hnz⟩ : ∃ n, zs.length = n := ⟨_, rfl⟩
  have HNL := Lib.hid hnl
  have HNM := Lib.hid hnm
  have HNZ := Lib.hid hnz
  rw [hnl, hnm, hnz]
  have bl : nl ≤ 80 := by have := len_le_szL l; omega
  have bm : nm ≤ 80 := by have := len_le_szL m; omega
  have i1 : ¬ (40 : Int) < (nl : Int) + (nm : Int) := by omega
  have i1' : decide ((40 : Int) < (nl : Int) + (nm : Int)) = false := decide_eq_false i1
  have hw : wrap64 ((nl : Int) + (nm : Int)) = (nl : Int) + (nm : Int) := by unfold wrap64; omega
  have i2 : (12 : Int) < (nz : Int) := by omega
  have C1 := C1.out
  rw [HNL.out] at C1
  have C1 := Lib.hid C1
  have HB := Lib.hid hb
  clear h hb h80 hnl hnm hnz
  go_enter Tryd.func7, Tryd.ntmps7
  go_wp2_with fail
  refine C1.out.mono ?_
  rintro r w2 ⟨rfl, hb2⟩
  have a2 := H.out.below hb2
  have C2 := great_any m Am cm w2 a2.m
  rw [show decide (80 < szL m) = false by simp; have := HB.out; omega, HNM.out] at C2
  have C2 := Lib.hid C2
  have H1 := Lib.hid (And.intro hb2 a2)
  clear hb2 a2
  go_wp2_with fail
  refine C2.out.mono ?_
  rintro r w3 ⟨rfl, hb3⟩
  have H2 := Lib.hid (And.intro (H1.out.1.trans (hb3.mono H1.out.1.size)) (H1.out.2.below hb3))
  clear hb3
  go_wp2_with fail
  refine (awake_any w3 H2.out.2.t).mono ?_
  rintro r w4 ⟨rfl, hb9⟩
  have H9 := Lib.hid (H2.out.1.trans (hb9.mono H2.out.1.size))
  clear hb9
  go_wp2_with fail
  go_ret
  exact ⟨rfl, H9.out⟩
set_option maxHeartbeats 8000000 in
set_option maxRecDepth 100000 in
theorem beside_w1 (se : Bool) (l m : List E) (zs : List Int) (Al Am Az : Option Addr) (cl cm cz : Nat) (w : World) (h : BArg w l m zs Al Am Az cl cm cz) (h80 : szL l ≤ 80) (hb : szL m ≤ 80 ∧ l.length + m.length ≤ 40 ∧ zs.length ≤ 12 ∧ (l.all rightE && decide (l.length ≤ 40)) = false) :
    Calls Tryd.prog 7 #[.bool se, .slice Al l.length cl, .slice Am m.length cm, .slice Az zs.length cz] w (UOk w) := by
  have C1 := great_any l Al cl w h.l
  rw [show decide (80 < szL l) = false by simp; omega] at C1
  have C1 := Lib.hid C1
  have H := Lib.hid h
  obtain ⟨nl, hnl⟩ : ∃ n, l.length = n := ⟨_, rfl⟩
  obtain ⟨nm, hnm⟩ : ∃ n, m.length = n := ⟨_, rfl⟩
  obtain ⟨nz, hnz⟩ : ∃ n, zs.length = n := ⟨_, rfl⟩
  have HNL := Lib.hid hnl
  have HNM := Lib.hid hnm
  have HNZ := Lib.hid hnz
  rw [hnl, hnm, hnz]
  have bl : nl ≤ 80 := by have := len_le_szL l; omega
  have bm : nm ≤ 80 := by have := len_le_szL m; omega
  have i1 : ¬ (40 : Int) < (nl : Int) + (nm : Int) := by omega
  have i1' : decide ((40 : Int) < (nl : Int) + (nm : Int)) = false := decide_eq_false i1
  have hw : wrap64 ((nl : Int) + (nm : Int)) = (nl : Int) + (nm : Int) := by unfold wrap64; omega
  have i2 : ¬ (12 : Int) < (nz : Int) := by omega
  have i2' : decide ((12 : Int) < (nz : Int)) = false := decide_eq_false i2
  have C1 := C1.out
  rw [HNL.out] at C1
  have C1 := Lib.hid C1
  have HB := Lib.hid hb
  have H80 := Lib.hid h80
  clear h hb h80 hnl hnm hnz
  go_enter Tryd.func7, Tryd.ntmps7
  go_wp2_with fail
  refine C1.out.mono ?_
  rintro r w2 ⟨rfl, hb2⟩
  have a2 := H.out.below hb2
  have C2 := great_any m Am cm w2 a2.m
  rw [show decide (80 < szL m) = false by simp; have := HB.out; omega, HNM.out] at C2
  have C2 := Lib.hid C2
  have H1 := Lib.hid (And.intro hb2 a2)
  clear hb2 a2
  go_wp2_with fail
  refine C2.out.mono ?_
  rintro r w3 ⟨rfl, hb3⟩
  have H2 := Lib.hid (And.intro (H1.out.1.trans (hb3.mono H1.out.1.size)) (H1.out.2.below hb3))
  clear hb3
  go_wp2_with fail
  refine (awake_any w3 H2.out.2.t).mono ?_
  rintro r w4 ⟨rfl, hb4⟩
  have a4 := H2.out.2.below hb4
  have b4 := H2.out.1.trans (hb4.mono H2.out.1.size)
  have D1 := allRight_any l Al cl w4 a4.l (by have := H80.out; omega)
  rw [HB.out.2.2.2, HNL.out] at D1
  have D1 := Lib.hid D1
  have H4 := Lib.hid (And.intro b4 a4)
  clear a4 b4 hb4
  go_wp2_with fail
  refine D1.out.mono ?_
  rintro r w5 ⟨rfl, hb5⟩
  have H5 := Lib.hid (H4.out.1.trans (hb5.mono H4.out.1.size))
  clear hb5
  go_wp2_with fail
  go_ret
  exact ⟨rfl, H5.out⟩
set_option maxHeartbeats 8000000 in
set_option maxRecDepth 100000 in
theorem beside_w2 (se : Bool) (l m : List E) (zs : List Int) (Al Am Az : Option Addr) (cl cm cz : Nat) (w : World) (h : BArg w l m zs Al Am Az cl cm cz) (h80 : szL l ≤ 80) (hb : szL m ≤ 80 ∧ l.length + m.length ≤ 40 ∧ zs.length ≤ 12 ∧ (l.all rightE && decide (l.length ≤ 40)) = true ∧ (m.all rightE && decide (m.length ≤ 40)) = false) :
    Calls Tryd.prog 7 #[.bool se, .slice Al l.length cl, .slice Am m.length cm, .slice Az zs.length cz] w (UOk w) := by
  have C1 := great_any l Al cl w h.l
  rw [show decide (80 < szL l) = false by simp; omega] at C1
  have C1 := Lib.hid C1
  have H := Lib.hid h
  obtain ⟨nl, hnl⟩ : ∃ n, l.length = n := ⟨_, rfl⟩
  obtain ⟨nm, hnm⟩ : ∃ n, m.length = n := ⟨_, rfl⟩
  obtain ⟨nz, hnz⟩ : ∃ n, zs.length = n := ⟨_, rfl⟩
  have HNL := Lib.hid hnl
  have HNM := Lib.hid hnm
  have HNZ := Lib.hid hnz
  rw [hnl, hnm, hnz]
  have bl : nl ≤ 80 := by have := len_le_szL l; omega
  have bm : nm ≤ 80 := by have := len_le_szL m; omega
  have i1 : ¬ (40 : Int) < (nl : Int) + (nm : Int) := by omega
  have i1' : decide ((40 : Int) < (nl : Int) + (nm : Int)) = false := decide_eq_false i1
  have hw : wrap64 ((nl : Int) + (nm : Int)) = (nl : Int) + (nm : Int) := by unfold wrap64; omega
  have i2 : ¬ (12 : Int) < (nz : Int) := by omega
  have i2' : decide ((12 : Int) < (nz : Int)) = false := decide_eq_false i2
  have C1 := C1.out
  rw [HNL.out] at C1
  have C1 := Lib.hid C1
  have HB := Lib.hid hb
  have H80 := Lib.hid h80
  clear h hb h80 hnl hnm hnz
  go_enter Tryd.func7, Tryd.ntmps7
  go_wp2_with fail
  refine C1.out.mono ?_
  rintro r w2 ⟨rfl, hb2⟩
  have a2 := H.out.below hb2
  have C2 := great_any m Am cm w2 a2.m
  rw [show decide (80 < szL m) = false by simp; have := HB.out; omega, HNM.out] at C2
  have C2 := Lib.hid C2
  have H1 := Lib.hid (And.intro hb2 a2)
  clear hb2 a2
  go_wp2_with fail
  refine C2.out.mono ?_
  rintro r w3 ⟨rfl, hb3⟩
  have H2 := Lib.hid (And.intro (H1.out.1.trans (hb3.mono H1.out.1.size)) (H1.out.2.below hb3))
  clear hb3
  go_wp2_with fail
  refine (awake_any w3 H2.out.2.t).mono ?_
  rintro r w4 ⟨rfl, hb4⟩
  have a4 := H2.out.2.below hb4
  have b4 := H2.out.1.trans (hb4.mono H2.out.1.size)
  have D1 := allRight_any l Al cl w4 a4.l (by have := H80.out; omega)
  rw [HB.out.2.2.2.1, HNL.out] at D1
  have D1 := Lib.hid D1
  have H4 := Lib.hid (And.intro b4 a4)
  clear a4 b4 hb4
  go_wp2_with fail
  refine D1.out.mono ?_
  rintro r w5 ⟨rfl, hb5⟩
  have a5 := H4.out.2.below hb5
  have b5 := H4.out.1.trans (hb5.mono H4.out.1.size)
  have D2 := allRight_any m Am cm w5 a5.m (by have := HB.out; omega)
  rw [HB.out.2.2.2.2, HNM.out] at D2
  have D2 := Lib.hid D2
  have H5 := Lib.hid (And.intro b5 a5)
  clear a5 b5 hb5
  go_wp2_with fail
  refine D2.out.mono ?_
  rintro r w6 ⟨rfl, hb6⟩
  have H6 := Lib.hid (H5.out.1.trans (hb6.mono H5.out.1.size))
  clear hb6
  go_wp2_with fail
  go_ret
  exact ⟨rfl, H6.out⟩
end Go.Proofs.YtlbcicoppglgjaaDoor
