/-
  EntityReads: the walk of the law, given that both answers are the same.
-/
import Derived.Test.YtpimadgcojgjaaaDoorAwa
import Derived.Test.YtpimadgcojgjaaaDoorRre
namespace Go.Proofs.YtpimadgcojgjaaaDoor
open Go.RowKit Go.Shelf Go.Lib Go.Maps Go.Great
attribute [local irreducible] NR ZNR FR nmE NL

set_option maxHeartbeats 8000000 in
set_option maxRecDepth 100000 in
theorem readsLaw16_of (xs : List Nat) (A : Option Addr) (cap : Nat) (I : Int) (hi0 : -9223372036854775808 ≤ I) (hi1 : I ≤ 9223372036854775807) (w : World) (hT : S.Tabs w) (h : BY w w.heap.size xs A cap) (hm : ∀ k, k < xs.length → readE xs (k : Int) = refFrom xs k 8 3) :
    Calls Tryd.prog 3 #[.slice A xs.length cap, .int .i64 I] w fun r w' => r = .returned (.bool true) ∧ Below w.heap.size w w' := by
  have hA := awake16_any w hT
  by_cases hl : 200 < xs.length
  · have hl2 : (200 : Int) < (xs.length : Int) := by omega
    have HA := Lib.hid hA
    clear hA hT h hm
    go_enter Tryd.func3, Tryd.ntmps3
    go_wp2_with fail
    refine HA.out.mono ?_
    rintro r w1 ⟨rfl, hb1⟩
    go_wp2_with fail
    go_ret
    exact ⟨rfl, hb1⟩
  · have hl2 : ¬ (200 : Int) < (xs.length : Int) := by omega
    have HA := Lib.hid (And.intro hA (And.intro hT (And.intro h hm)))
    clear hA hT h hm
    go_enter Tryd.func3, Tryd.ntmps3
    go_wp2_with fail
    refine HA.out.1.mono ?_
    rintro r w1 ⟨rfl, hb1⟩
    have C1 := readE_any w1 (HA.out.2.1.below hb1 HA.out.2.1.2) xs A cap (HA.out.2.2.1.on hb1) I hi0 hi1
    obtain ⟨RE, hRE⟩ : ∃ v, readE xs I = v := ⟨_, rfl⟩
    rw [hRE] at C1
    have H1 := Lib.hid (And.intro hb1 (And.intro C1 hRE))
    clear hb1 C1 hRE
    go_wp2_with fail
    refine H1.out.2.1.mono ?_
    rintro r w2 ⟨rfl, hb2⟩
    have b2 := H1.out.1.trans (hb2.mono H1.out.1.size)
    by_cases h0 : I < 0
    case pos =>
      have hz : RE = (0, 0) := by rw [← H1.out.2.2, readE, if_pos (Or.inl h0)]
      subst hz
      have HB := Lib.hid b2
      clear hb2 b2
      go_wp2_with fail
      go_ret
      exact ⟨rfl, HB.out⟩
    case neg =>
    by_cases h1 : (xs.length : Int) ≤ I
    case pos =>
      have hz : RE = (0, 0) := by rw [← H1.out.2.2, readE, if_pos (Or.inr h1)]
      subst hz
      have HB := Lib.hid b2
      clear hb2 b2
      go_wp2_with fail
      go_ret
      exact ⟨rfl, HB.out⟩
    case neg =>
      obtain ⟨k, rfl⟩ : ∃ k : Nat, I = (k : Int) := ⟨I.toNat, by omega⟩
      have hk : k < xs.length := by omega
      have C2 := refReadE_any w2 xs A cap ((HA.out.2.2.1.on H1.out.1).on hb2) (by omega) k hk
      have he : refFrom xs k 8 3 = RE := by rw [← HA.out.2.2.2 k hk]; exact H1.out.2.2
      rw [he] at C2
      obtain ⟨R1, R2⟩ := RE
      have HB := Lib.hid (And.intro b2 C2)
      clear hb2 b2 C2 he
      go_wp2_with fail
      refine HB.out.2.mono ?_
      rintro r w3 ⟨rfl, hb3⟩
      have H3 := Lib.hid (HB.out.1.trans (hb3.mono HB.out.1.size))
      clear hb3
      go_wp2_with fail
      go_ret
      exact ⟨by simp, H3.out⟩
end Go.Proofs.YtpimadgcojgjaaaDoor
