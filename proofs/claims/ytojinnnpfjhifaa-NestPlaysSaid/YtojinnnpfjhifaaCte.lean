/-
  Contracts: nest.New, Nest.Take of any token, awake; NestNone's walk.
-/
import Derived.Test.YtojinnnpfjhifaaCtk
namespace Go.Proofs.Ytojinnnpfjhifaa
open Go.RowKit Go.Shelf Go.Lib Go.Maps
attribute [local irreducible] nmL ofN

theorem fz_below {g B : Nat} {w w1 w2 : World} (hb : Below B w w1) (hf : Fz (fun k => k = g) w1 w2) (hg : B ≤ g) (hB : B ≤ w1.heap.size) : Below B w w2 :=
  hb.trans (hf.below hB (fun k hk e => by have e' : k = g := e; omega))
theorem MX.fz {g : Nat} {w w' : World} (h : MX w) (hf : Fz (fun k => k = g) w w') (hg : 0 < g) : MX w' := by
  obtain ⟨m, hm⟩ := h
  refine ⟨m, ?_⟩
  have h0 : 0 < w.heap.size := MX.pos ⟨m, hm⟩
  have := hf.block 0 h0 (by omega)
  unfold World.cell? at hm ⊢
  rw [this]
  exact hm
/-- What a name is. -/
def nameN (nm : ByteArray) : Nat := ofN nm.data.toList 7
theorem take_any (kd fr to : Int) (nm : ByteArray) (r : Int) (sg : Bool) (hl : nm.size ≤ 100) (g : Nat) (c : Ct) (hc : c.ok) (w : World) (h : NeAt w g c) (hM : MX w) :
    Calls Try.prog 9 #[.pointer (some ⟨g, 0, none⟩), .agg (tkA kd fr to nm r sg)] w fun e w' =>
      e = .returned (.tuple #[.bool (takeF (nameN nm) kd c), .bool (takeX (nameN nm) kd c)]) ∧ NeAt w' g (takeC (nameN nm) kd sg c) ∧ Fz (fun k => k = g) w w' := by
  by_cases hk : kd = 2 ∨ kd = 3
  · unfold takeF takeX takeC nameN
    rw [decide_eq_true hk, if_pos hk, Bool.true_and]
    exact take_tag kd fr to nm r sg hk hl g c hc w h hM
  · have h2 : kd ≠ 2 := fun e => hk (.inl e)
    have h3 : kd ≠ 3 := fun e => hk (.inr e)
    unfold takeF takeX takeC
    rw [decide_eq_false hk, if_neg hk, decide_eq_false h2, Bool.false_and, Bool.false_and]
    refine (take_other kd fr to nm r sg h2 h3 (.pointer (some ⟨g, 0, none⟩)) (.inr ⟨g, rfl⟩) w).mono ?_
    rintro e w' ⟨rfl, hb⟩
    exact ⟨rfl, Cells.on h hb, Fz.of_below hb⟩
set_option maxRecDepth 100000 in
set_option maxHeartbeats 4000000 in
theorem new_any (w : World) : Calls Try.prog 8 #[] w fun e w' => e = .returned (.pointer (some ⟨w.heap.size, 0, none⟩)) ∧ w' = w.alloc (.cells (ctA ⟨0, 0, 0⟩) 47) := by
  unfold ctA
  go_enter Try.func8, Try.ntmps8
  go_wp2_with fail
  go_ret
  exact ⟨rfl, rfl⟩
theorem name_pre : nameN ⟨#[112, 114, 101]⟩ = 9 := by with_unfolding_all decide +kernel
theorem name_nobr : nameN ⟨#[110, 111, 98, 114]⟩ = 16 := by with_unfolding_all decide +kernel
theorem ok0 : (⟨0, 0, 0⟩ : Ct).ok := ⟨by decide, by decide, by decide⟩
set_option maxRecDepth 100000 in
set_option maxHeartbeats 8000000 in
theorem awake_any (w : World) (hM : MX w) : Calls Try.prog 7 #[] w fun e w' => e = .returned (.bool true) ∧ Below w.heap.size w w' := by
  have CN := new_any w
  obtain ⟨W1, hW1⟩ : ∃ V, w.alloc (.cells (ctA ⟨0, 0, 0⟩) 47) = V := ⟨_, rfl⟩
  rw [hW1] at CN
  have b1 : Below w.heap.size w W1 := by rw [← hW1]; exact below_new w _
  have n1 : NeAt W1 w.heap.size ⟨0, 0, 0⟩ := by rw [← hW1]; exact cells_new _ _ _
  have hM1 := hM.on hM.pos b1
  have hpos := hM.pos
  have C1 := take_any 2 0 0 ⟨#[112, 114, 101]⟩ 0 false (by decide) w.heap.size ⟨0, 0, 0⟩ ok0 W1 n1 hM1
  rw [name_pre, show takeC 9 2 false ⟨0, 0, 0⟩ = ⟨0, 1, 0⟩ from rfl, show takeF 9 2 ⟨0, 0, 0⟩ = true from rfl, show takeX 9 2 ⟨0, 0, 0⟩ = false from rfl] at C1
  unfold tkA at C1
  have HB := Lib.hid (And.intro b1 (And.intro hM1 hpos))
  clear hW1 b1 n1 hM1 hM hpos
  go_enter Try.func7, Try.ntmps7
  go_wp2_with fail
  refine CN.mono ?_
  rintro e _ ⟨rfl, rfl⟩
  go_wp2_with fail
  refine C1.mono ?_
  rintro e w2 ⟨rfl, n2, f2⟩
  have b2 := fz_below HB.out.1 f2 (Nat.le_refl _) HB.out.1.size
  have hM2 := HB.out.2.1.fz f2 HB.out.2.2
  have C2 := take_any 2 0 0 ⟨#[110, 111, 98, 114]⟩ 0 false (by decide) w.heap.size ⟨0, 1, 0⟩ ⟨by decide, by decide, by decide⟩ w2 n2 hM2
  rw [name_nobr, show takeC 16 2 false ⟨0, 1, 0⟩ = ⟨0, 1, 1⟩ from rfl, show takeF 16 2 ⟨0, 1, 0⟩ = false from rfl, show takeX 16 2 ⟨0, 1, 0⟩ = false from rfl] at C2
  unfold tkA at C2
  have HB2 := Lib.hid (And.intro b2 (And.intro hM2 HB.out.2.2))
  clear C1 CN n2 f2 b2 hM2
  go_wp2_with fail
  refine C2.mono ?_
  rintro e w3 ⟨rfl, n3, f3⟩
  have b3 := fz_below HB2.out.1 f3 (Nat.le_refl _) HB2.out.1.size
  have hM3 := HB2.out.2.1.fz f3 HB.out.2.2
  have CP := pre_any _ _ _ n3
  have CB := nob_any _ _ _ n3
  have CH := hid_any _ _ _ n3
  have C3 := take_any 3 0 0 ⟨#[112, 114, 101]⟩ 0 false (by decide) w.heap.size ⟨0, 1, 1⟩ ⟨by decide, by decide, by decide⟩ w3 n3 hM3
  rw [name_pre, show takeC 9 3 false ⟨0, 1, 1⟩ = ⟨0, 0, 1⟩ from rfl, show takeF 9 3 ⟨0, 1, 1⟩ = true from rfl, show takeX 9 3 ⟨0, 1, 1⟩ = false from rfl] at C3
  unfold tkA at C3
  have HB3 := Lib.hid (And.intro b3 hM3)
  clear C2 n3 f3 b3 hM3
  go_wp2_with fail
  refine CP.mono ?_
  rintro e _ ⟨rfl, rfl⟩
  clear CP
  go_wp2_with fail
  refine CB.mono ?_
  rintro e _ ⟨rfl, rfl⟩
  clear CB
  go_wp2_with fail
  refine CH.mono ?_
  rintro e _ ⟨rfl, rfl⟩
  clear CH
  go_wp2_with fail
  refine C3.mono ?_
  rintro e w4 ⟨rfl, n4, f4⟩
  have b4 := fz_below HB3.out.1 f4 (Nat.le_refl _) HB3.out.1.size
  have CP := pre_any _ _ _ n4
  have CB := nob_any _ _ _ n4
  have HB4 := Lib.hid b4
  clear C3 n4 f4 b4
  go_wp2_with fail
  refine CP.mono ?_
  rintro e _ ⟨rfl, rfl⟩
  clear CP
  go_wp2_with fail
  refine CB.mono ?_
  rintro e _ ⟨rfl, rfl⟩
  clear CB
  go_wp2_with fail
  go_ret
  exact ⟨rfl, HB4.out⟩
set_option maxRecDepth 100000 in
set_option maxHeartbeats 8000000 in
theorem noneLaw (kd : Int) (nm : ByteArray) (sg : Bool) (w : World) (hM : MX w) : Calls Try.prog 6 #[.agg #[.int .i64 kd, .string nm, .bool sg]] w fun e w' => e = .returned (.bool true) ∧ Below w.heap.size w w' := by
  have AW := fun W (hb : Below w.heap.size w W) => awake_any W (hM.on hM.pos hb)
  obtain ⟨W1, hW1⟩ : ∃ V, w.alloc (.cells #[.int .i64 kd, .string nm, .bool sg] 29) = V := ⟨_, rfl⟩
  have b1 : Below w.heap.size w W1 := by rw [← hW1]; exact below_new w _
  have o1 : Cells W1 w.heap.size 29 #[.int .i64 kd, .string nm, .bool sg] := by rw [← hW1]; exact cells_new _ _ _
  have CT := take_nil kd 0 0 nm 0 sg W1
  unfold tkA at CT
  have q0 := o1.cell 0
  have q1 := o1.cell 1
  have q2 := o1.cell 2
  simp at q0 q1 q2
  have HA := Lib.hid AW
  have HB := Lib.hid (And.intro hW1 b1)
  clear hW1 b1 o1 AW hM
  by_cases c : 60 < nm.size
  · have c1 : (60 : Int) < (nm.size : Int) := by omega
    go_enter Try.func6, Try.ntmps6
    go_wp2_with fail
    rw [HB.out.1]
    go_wp2_with fail
    refine (HA.out W1 HB.out.2).mono ?_
    rintro e w2 ⟨rfl, hb⟩
    have HZ := Lib.hid (HB.out.2.trans (hb.mono HB.out.2.size))
    clear hb
    go_wp2_with fail
    go_ret
    exact ⟨rfl, HZ.out⟩
  · have c1 : ¬ (60 : Int) < (nm.size : Int) := by omega
    go_enter Try.func6, Try.ntmps6
    go_wp2_with fail
    rw [HB.out.1]
    go_wp2_with fail
    refine CT.mono ?_
    rintro e w2 ⟨rfl, hb⟩
    have HZ := Lib.hid (HB.out.2.trans (hb.mono HB.out.2.size))
    clear hb CT
    have C1 := hid_nil w2
    have C2 := pre_nil w2
    have C3 := nob_nil w2
    go_wp2_with fail
    refine C1.mono ?_
    rintro e _ ⟨rfl, rfl⟩
    clear C1
    go_wp2_with fail
    refine C2.mono ?_
    rintro e _ ⟨rfl, rfl⟩
    clear C2
    go_wp2_with fail
    refine C3.mono ?_
    rintro e w5 ⟨rfl, rfl⟩
    clear C3
    go_wp2_with fail
    refine (HA.out w5 HZ.out).mono ?_
    rintro e w6 ⟨rfl, hb6⟩
    have HZ2 := Lib.hid (HZ.out.trans (hb6.mono HZ.out.size))
    clear hb6
    go_wp2_with fail
    go_ret
    exact ⟨rfl, HZ2.out⟩
end Go.Proofs.Ytojinnnpfjhifaa
