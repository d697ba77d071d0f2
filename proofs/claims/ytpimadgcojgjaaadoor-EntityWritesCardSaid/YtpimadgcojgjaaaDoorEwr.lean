/-
  Contract: entity.Write.
-/
import Derived.Test.YtpimadgcojgjaaaDoorClo
import Derived.Test.YtpimadgcojgjaaaDoorNer
import Derived.Test.YtpimadgcojgjaaaDoorSHx1
import Derived.Deep.CutRange
import Derived.Lib.QuietBelow
import Derived.BigQuiet
namespace Go.Proofs.YtpimadgcojgjaaaDoor
open Go.RowKit Go.Shelf Go.Lib Go.Maps Go.Great
open Go.Sort (grow)
attribute [local irreducible] NR ZNR FR nmE

/-- What is written. -/
def wrS (r : Int) : List UInt8 := match nmE.find? (isRu r) with
  | some x => 38 :: (x.1 ++ [59])
  | none => if r = 0 ∨ Lib.validRune r = false then [] else 38 :: 35 :: 120 :: (S.hexD r.toNat ++ [59])
theorem wrS_name {r : Int} {x : NmE} (h : nmE.find? (isRu r) = some x) : wrS r = 38 :: (x.1 ++ [59]) := by unfold wrS; rw [h]
theorem wrS_none {r : Int} (h : nmE.find? (isRu r) = none) (h0 : r = 0 ∨ Lib.validRune r = false) : wrS r = [] := by unfold wrS; rw [h]; exact if_pos h0
theorem wrS_hex {r : Int} (h : nmE.find? (isRu r) = none) (h0 : r ≠ 0) (hv : Lib.validRune r = true) : wrS r = 38 :: 35 :: 120 :: (S.hexD r.toNat ++ [59]) := by
  unfold wrS; rw [h]; exact if_neg (by simp [h0, hv])
theorem cat2 (a s b : List UInt8) : ∃ C1 : ByteArray, (⟨a.toArray⟩ : ByteArray) ++ ⟨s.toArray⟩ = C1 ∧ C1 ++ ⟨b.toArray⟩ = ⟨(a ++ s ++ b).toArray⟩ ∧ C1.size = a.length + s.length := by
  refine ⟨⟨(a ++ s).toArray⟩, ?_, ?_, ?_⟩
  · apply ByteArray.ext; simp [ByteArray.data_append]
  · apply ByteArray.ext; simp [ByteArray.data_append]
  · simp [ByteArray.size]
theorem hexD_len (n : Nat) : ∀ q, n < 16 ^ (q + 1) → (S.hexD n).length ≤ q + 1 := by
  intro q
  induction q generalizing n with
  | zero => intro h; rw [S.hexD_lt (by simpa using h)]; simp
  | succ q ih =>
    intro h
    by_cases c : n < 16
    · rw [S.hexD_lt c]; simp
    · rw [S.hexD_ge c, List.length_append]
      have := ih (n / 16) (by rw [Nat.pow_succ] at h; omega)
      simp
      omega
theorem scR_ne {r : Int} : (scR r != r) = !Lib.validRune r := by
  unfold scR
  cases h : Lib.validRune r with
  | true => simp
  | false =>
    simp
    rintro rfl
    revert h
    decide
set_option maxHeartbeats 8000000 in
set_option maxRecDepth 100000 in
theorem ewrite_any (r : Int) (h0 : -2147483648 ≤ r) (h1 : r ≤ 2147483647) (w : World) (hT : S.Tabs w) (hZ : S.TZ w) :
    Calls Tryd.prog 18 #[.int .i32 r] w fun e w' => e = .returned (.string ⟨(wrS r).toArray⟩) ∧ Below w.heap.size w w' := by
  have b0 := below_new w (.cells #[.int .i32 r] 21)
  have C := find40_any ⟨w.heap.size, 0, none⟩ (isRu r) (w.alloc (.cells #[.int .i32 r] 21)) (fun W hb s z _ => clo40_any W s z r _ ((cells_new w #[.int .i32 r] 21).on hb))
  have KN := fun W (hb : Below w.heap.size w W) => nearest_any r h0 h1 W (hT.below hb hT.2)
  have KF := fun W (hb : Below w.heap.size w W) (n : Nat) (hn : n < 4294967296) => S.fi59_any n hn W (hZ.below hb)
  have HH := Lib.hid (And.intro KN (And.intro KF (And.intro b0 (cells_new w #[.int .i32 r] 21))))
  have HR := Lib.hid (And.intro h0 h1)
  obtain ⟨SW, hSW⟩ : ∃ S : ByteArray, ⟨(wrS r).toArray⟩ = S := ⟨_, rfl⟩
  rw [hSW]
  have HSW := Lib.hid hSW
  clear KN KF hT hZ b0 hSW
  go_enter Tryd.func18, Tryd.ntmps18
  go_wp2_with fail
  refine C.mono ?_
  rintro e w1 ⟨rfl, hb1⟩
  have bw1 : Below w.heap.size w w1 := HH.out.2.2.1.trans (hb1.mono (by simp))
  have x1 := HH.out.2.2.2.on hb1
  clear C
  cases hf : nmE.find? (isRu r) with
  | some x =>
    have hsh := nm_short x (List.mem_of_find?_eq_some hf)
    have hw := wrS_name hf
    obtain ⟨s, z⟩ := x
    simp only [findV, rowV]
    dsimp only at hsh hw
    obtain ⟨C1, g1, g2, z1⟩ := cat2 [38] s [59]
    have zs : (⟨s.toArray⟩ : ByteArray).size = s.length := by simp [ByteArray.size]
    have hw2 : (⟨([38] ++ s ++ [59]).toArray⟩ : ByteArray) = ⟨(wrS r).toArray⟩ := by rw [hw]; simp
    rw [hw2] at g2
    obtain ⟨S1, hS1⟩ : ∃ S : ByteArray, ⟨s.toArray⟩ = S := ⟨_, rfl⟩
    rw [HSW.out] at g2
    rw [hS1] at g1 zs ⊢
    have g1 : (⟨#[38]⟩ : ByteArray) ++ S1 = C1 := g1
    have g2 : C1 ++ ⟨#[59]⟩ = SW := g2
    have z1 : C1.size = 1 + s.length := z1
    have k1 : S1.size ≤ 100 := by omega
    have k2 : C1.size ≤ 101 := by omega
    have HB := Lib.hid bw1
    clear hb1 bw1 hw hw2 hf hS1 hsh x1 zs z1
    go_wp2_with fail
    go_ret
    exact ⟨rfl, HB.out.trans ((below_new w1 _).mono HB.out.size)⟩
  | none =>
    simp only [findV]
    have b2 := below_new w1 (.cells #[.string ⟨#[]⟩, .int .i32 0] 70)
    have x2 := x1.on b2
    have p0 := x2.cell 0
    simp at p0
    have bw2 := bw1.trans (b2.mono bw1.size)
    have HB := Lib.hid (And.intro bw2 (And.intro x2 hf))
    clear hb1 bw1 x1 hf x2 b2 bw2
    by_cases r0 : r = 0
    · have hw := wrS_none HB.out.2.2 (.inl r0)
      have d : (r == 0) = true := by simpa using r0
      have HW := Lib.hid hw
      clear r0 hw
      go_wp2_with go_quiet (fail)
      go_ret
      exact ⟨by rw [← HSW.out, HW.out]; rfl, below_drewN HB.out.1 _⟩
    · have d : (r == 0) = false := by simpa using r0
      have hd := scR_ne (r := r)
      obtain ⟨SR, hSR⟩ : ∃ x, scR r = x := ⟨_, rfl⟩
      rw [hSR] at hd
      obtain ⟨VB, hVB⟩ : ∃ b, Lib.validRune r = b := ⟨_, rfl⟩
      rw [hVB] at hd
      have HV := Lib.hid (And.intro hSR hVB)
      clear hSR hVB
      go_upto_region 4 with fail
      generalize hW2 : w1.alloc (.cells #[.string ⟨#[]⟩, .int .i32 0] 70) = W2 at *
      have D1 : ∀ d os, Calls Tryd.prog 41 #[.int .i32 r] (grow (redrawn W2 d) os) fun e w'' => e = .returned (.int .i32 SR) ∧ ∃ p : Regrown, w'' = grow (redrawn W2 p.d) p.os := fun d os => by
        have := Calls.regrown_of (HH.out.1 _ (HB.out.1.trans ((below_regrown W2 d os).mono HB.out.1.size)))
        rw [HV.out.1] at this
        exact this
      have r1 := cell_regrown p0
      refine wp_region_quiet_below (by kernel_rfl) (by kernel_rfl) ?_
      repeat (go_big_quiet_step (first | (with_reducible exact D1 _ _)))
      refine wpQuiet_nil ?_
      intro _ hw'
      obtain ⟨⟨dq, osq⟩, hw''⟩ := hw'
      subst hw''
      have z1 := r1 dq osq
      have HB3 := Lib.hid (HB.out.1.trans ((below_regrown W2 dq osq).mono HB.out.1.size))
      generalize grow (redrawn W2 dq) osq = W3 at *
      clear D1 r1 p0 hW2
      cases VB with
      | false =>
        have hw := Lib.hid (wrS_none HB.out.2.2 (.inr HV.out.2))
        clear z1
        go_wp2_with fail
        go_ret
        exact ⟨by rw [← HSW.out, hw.out]; rfl, HB3.out⟩
      | true =>
        have hvi := (valid_iff r).1 HV.out.2
        obtain ⟨n, hn⟩ : ∃ n : Nat, r = (n : Int) := ⟨r.toNat, by omega⟩
        have hw := wrS_hex HB.out.2.2 r0 HV.out.2
        have K := HH.out.2.1 W3 HB3.out n (by omega)
        have hl := hexD_len n 5 (by omega)
        rw [hn, Int.toNat_natCast] at hw
        rw [← hn] at K
        have hr0 : 0 ≤ r := hvi.1
        have hr1 : r ≤ 1114111 := hvi.2.1
        obtain ⟨C1, g1, g2, z2⟩ := cat2 [38, 35, 120] (S.hexD n) [59]
        have zs : (⟨(S.hexD n).toArray⟩ : ByteArray).size = (S.hexD n).length := by simp [ByteArray.size]
        obtain ⟨S1, hS1⟩ : ∃ Sx : ByteArray, ⟨(S.hexD n).toArray⟩ = Sx := ⟨_, rfl⟩
        have hw2 : (⟨([38, 35, 120] ++ S.hexD n ++ [59]).toArray⟩ : ByteArray) = SW := by rw [← HSW.out, hn, hw]; simp
        rw [hw2] at g2
        rw [hS1] at g1 zs K
        have g1 : (⟨#[38, 35, 120]⟩ : ByteArray) ++ S1 = C1 := g1
        have g2 : C1 ++ ⟨#[59]⟩ = SW := g2
        have z2 : C1.size = 3 + (S.hexD n).length := z2
        have k1 : S1.size ≤ 6 := by omega
        have k2 : C1.size ≤ 9 := by omega
        have HK := Lib.hid K
        clear hvi hn hw hw2 hS1 zs z2 hl K r0 d hd
        go_wp2_with fail
        refine HK.out.mono ?_
        rintro e w4 ⟨rfl, hb4⟩
        have HB4 := Lib.hid (HB3.out.trans (hb4.mono HB3.out.size))
        clear hb4 z1
        go_wp2_with fail
        go_ret
        exact ⟨rfl, HB4.out⟩
end Go.Proofs.YtpimadgcojgjaaaDoor
