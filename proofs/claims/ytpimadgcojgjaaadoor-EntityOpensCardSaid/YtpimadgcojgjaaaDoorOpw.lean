/-
  EntityOpens: the walk of the law.
-/
import Derived.Test.YtpimadgcojgjaaaDoorRop
import Derived.Test.YtpimadgcojgjaaaDoorCuw
namespace Go.Proofs.YtpimadgcojgjaaaDoor
open Go.RowKit Go.Shelf Go.Lib Go.Maps Go.Great
attribute [local irreducible] NR ZNR FR nmE NL

set_option maxHeartbeats 8000000 in
set_option maxRecDepth 100000 in
theorem opensLaw16 (SL : ByteArray) (w : World) (hT : S.Tabs w) :
    Calls Tryd.prog 4 #[.string SL] w fun e w' => e = .returned (.bool true) ∧ Below w.heap.size w w' := by
  have hA := awake16_any w hT
  by_cases hl : 60 < SL.size
  · have hl2 : (60 : Int) < (SL.size : Int) := by omega
    have HA := Lib.hid hA
    clear hA hT hl
    go_enter Tryd.func4, Tryd.ntmps4
    go_wp2_with fail
    refine HA.out.mono ?_
    rintro e w1 ⟨rfl, hb1⟩
    go_wp2_with fail
    go_ret
    exact ⟨rfl, hb1⟩
  have hl2 : ¬ (60 : Int) < (SL.size : Int) := by omega
  obtain ⟨l, hS⟩ : ∃ l : List UInt8, ⟨l.toArray⟩ = SL := by
    obtain ⟨⟨d⟩⟩ := SL
    exact ⟨d, rfl⟩
  obtain ⟨N, hN⟩ : ∃ n, l.length = n := ⟨_, rfl⟩
  have hsz : SL.size = N := by rw [← hS, ← hN]; simp [ByteArray.size]
  have hN60 : N ≤ 60 := by omega
  have KO := fun W => refOpen_any l (by omega) W
  rw [hS] at KO
  have h256 : ∀ x ∈ nats l, x < 256 := nats_256 l
  have hor := open_read h256
  have hos := open_same _ h256
  have hzn : (nats l).length = N := by rw [nats_length]; exact hN
  obtain ⟨OZ, hOZ⟩ : ∃ b, openZ (nats l) = b := ⟨_, rfl⟩
  obtain ⟨RE, hRE⟩ : ∃ v, readE (nats l) 0 = v := ⟨_, rfl⟩
  rw [hOZ] at KO hor hos
  rw [hRE] at hor
  have HA := Lib.hid (And.intro hA (And.intro hT (And.intro hS (And.intro hN (And.intro KO (And.intro hor (And.intro hos (And.intro hzn hRE))))))))
  clear hA hT hS hN KO hor hos hzn hRE h256 hOZ hl
  go_enter Tryd.func4, Tryd.ntmps4
  go_wp2_with fail
  refine HA.out.1.mono ?_
  rintro e w1 ⟨rfl, hb1⟩
  obtain ⟨cp1, W1, cv1, R1, b1, l1, m1⟩ := conv_nm HA.out.2.2.1 HA.out.2.2.2.1 (by omega) w1
  have bw1 := hb1.trans (b1.mono hb1.size)
  have CR := readE_any W1 (HA.out.2.1.below bw1 HA.out.2.1.2) (nats l) (some ⟨w1.heap.size, 0, none⟩) cp1 R1.by 0 (by omega) (by omega)
  rw [HA.out.2.2.2.2.2.2.2.1, HA.out.2.2.2.2.2.2.2.2] at CR
  have H1 := Lib.hid (And.intro bw1 CR)
  clear bw1 CR R1 b1 hb1
  go_wp2_with fail
  refine H1.out.2.mono ?_
  rintro e w5 ⟨rfl, hb5⟩
  have bw5 := H1.out.1.trans (hb5.mono H1.out.1.size)
  clear hb5
  obtain ⟨cp2, W6, cv2, R2, b2, l2, m2⟩ := conv_nm HA.out.2.2.1 HA.out.2.2.2.1 (by omega) w5
  have bw6 := bw5.trans (b2.mono bw5.size)
  have CO := openE_any W6 (nats l) (some ⟨w5.heap.size, 0, none⟩) cp2 R2.by
  rw [HA.out.2.2.2.2.2.2.2.1, HA.out.2.2.2.2.2.2.1] at CO
  have H6 := Lib.hid (And.intro bw6 CO)
  clear bw6 CO R2 b2 bw5
  go_wp2_with fail
  refine H6.out.2.mono ?_
  rintro e w7 ⟨rfl, hb7⟩
  have HB7 := Lib.hid (H6.out.1.trans (hb7.mono H6.out.1.size))
  clear hb7
  go_wp2_with fail
  refine (HA.out.2.2.2.2.1 w7).mono ?_
  rintro e w8 ⟨rfl, hb8⟩
  have bw8 := HB7.out.trans (hb8.mono HB7.out.size)
  clear hb8
  have hoo : (OZ == OZ) = true := by simp
  obtain ⟨R0, M0⟩ := RE
  cases OZ with
  | true =>
    have h0 := HA.out.2.2.2.2.2.1 rfl
    injection h0 with h0 h1
    subst h0 h1
    have HB8 := Lib.hid bw8
    clear bw8
    go_wp2_with fail
    go_ret
    exact ⟨by first | rfl | simp, HB8.out⟩
  | false =>
    by_cases hz : M0 = 0
    · subst hz
      have HB8 := Lib.hid bw8
      clear bw8
      go_wp2_with fail
      go_ret
      exact ⟨by first | rfl | simp, HB8.out⟩
    · have d0 : ((M0 : Int) == 0) = false := by simp; omega
      obtain ⟨cp3, W9, cv3, R3, b3, l3, m3⟩ := conv_nm HA.out.2.2.1 HA.out.2.2.2.1 (by omega) w8
      have bw9 := bw8.trans (b3.mono bw8.size)
      have CO := openE_any W9 (nats l) (some ⟨w8.heap.size, 0, none⟩) cp3 R3.by
      rw [HA.out.2.2.2.2.2.2.2.1, HA.out.2.2.2.2.2.2.1] at CO
      have H9 := Lib.hid (And.intro bw9 CO)
      clear bw9 CO R3 b3 bw8 hz
      go_wp2_with fail
      refine H9.out.2.mono ?_
      rintro e w10 ⟨rfl, hb10⟩
      have HB10 := Lib.hid (H9.out.1.trans (hb10.mono H9.out.1.size))
      clear hb10
      go_wp2_with fail
      go_ret
      exact ⟨by first | rfl | simp, HB10.out⟩
end Go.Proofs.YtpimadgcojgjaaaDoor
