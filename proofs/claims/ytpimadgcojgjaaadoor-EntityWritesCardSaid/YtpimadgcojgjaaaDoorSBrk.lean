/-
  Contracts: unicode/utf8.FullRune at two bytes and more, in one; scalar.brokenSize.
-/
import Derived.Test.YtpimadgcojgjaaaDoorSFull
namespace Go.Proofs.YtpimadgcojgjaaaDoor.S
open Go.RowKit Go.Shelf
open Go.Lib

/-- n bytes lie from a place on. -/
def Bs (w : World) (b off n : Nat) (f : Nat → Nat) : Prop := ∀ j, j < n → w.cell? ⟨b, off + j, none⟩ = some (.int .u8 (f j : Nat)) ∧ f j < 256

theorem Bs.lt {w : World} {b off n : Nat} {f : Nat → Nat} (h : Bs w b off n f) (hn : 0 < n) : b < w.heap.size := block_lt_of_cell (h 0 hn).1
theorem Bs.below {w w' : World} {b off n B : Nat} {f : Nat → Nat} (h : Bs w b off n f) (hb : Below B w w') (hB : b < B) : Bs w' b off n f :=
  fun j hj => ⟨(hb.cell (p := ⟨b, off + j, none⟩) hB).trans (h j hj).1, (h j hj).2⟩
theorem Bs.drop {w : World} {b off n : Nat} {f : Nat → Nat} (h : Bs w b off n f) (k : Nat) : Bs w b (off + k) (n - k) (fun j => f (k + j)) :=
  fun j hj => by have := h (k + j) (by omega); rw [← Nat.add_assoc] at this; exact this
theorem Bs.take {w : World} {b off n : Nat} {f : Nat → Nat} (h : Bs w b off n f) {k : Nat} (hk : k ≤ n) : Bs w b off k f := fun j hj => h j (by omega)
/-- The two tables lie below. -/
def Tabs (w : World) : Prop := Utf8Tabs 2 3 w ∧ 4 ≤ w.heap.size
theorem Tabs.below {w w' : World} {B : Nat} (h : Tabs w) (hb : Below B w w') (hB : 4 ≤ B) : Tabs w' := by
  refine ⟨⟨fun c hc => (hb.cell (p := ⟨2, c, none⟩) (by show 2 < B; omega)).trans (h.1.1 c hc), fun i hi => ⟨?_, ?_⟩⟩, ?_⟩
  · exact (hb.cell (p := ⟨3, 2 * i, none⟩) (by show 3 < B; omega)).trans (h.1.2 i hi).1
  · exact (hb.cell (p := ⟨3, 2 * i + 1, none⟩) (by show 3 < B; omega)).trans (h.1.2 i hi).2
  · have := hb.size; have := h.2; omega

/-- FullRune at two bytes and more. -/
theorem full_any (b off k cap n : Nat) (f : Nat → Nat) (w : World) (hT : Tabs w) (hB : Bs w b off n f) (h2 : 2 ≤ k) (hk : k ≤ n) :
    Calls Tryd.prog 103 #[.slice (some ⟨b, off, none⟩) k cap] w fun e w' => e = .returned (.bool (M1.fullB k (f 0) (f 1) (f 2))) ∧ Below w.heap.size w w' := by
  have h0 := hB 0 (by omega)
  have h1 := hB 1 (by omega)
  by_cases hf : firstT (f 0) % 8 ≤ k
  · have e : M1.fullB k (f 0) (f 1) (f 2) = true := by unfold M1.fullB M1.fullS; rw [if_pos hf]
    rw [e]
    refine (full_early b off k cap (f 0) w hT.1 h0.2 h2 h0.1 hf).mono ?_
    rintro e w' ⟨rfl, rfl⟩
    exact ⟨rfl, Below.refl _ _⟩
  · have e : M1.fullB k (f 0) (f 1) (f 2) = slowAns k (f 1) (f 2) (accLo (firstT (f 0) / 16)) (accHi (firstT (f 0) / 16)) := by
      unfold M1.fullB M1.fullS slowAns
      rw [if_neg hf]
      by_cases c : f 1 < accLo (firstT (f 0) / 16) ∨ accHi (firstT (f 0) / 16) < f 1
      · rw [if_pos c, if_pos ⟨by omega, c⟩]
      · rw [if_neg c, if_neg (fun h => c h.2)]
    rw [e]
    exact full_slow b off k cap (f 0) (f 1) (f 2) w hT.1 h0.2 h2 h0.1 h1.1 (fun h => (hB 2 (by omega)).1) (by omega)

set_option maxHeartbeats 1000000 in
/-- scalar.brokenSize. -/
theorem brk_any (b off n cap : Nat) (f : Nat → Nat) (w : World) (hT : Tabs w) (hB : Bs w b off n f) (hn : 1 ≤ n) (hc : n ≤ cap) (hm : cap ≤ maxLen) :
    Calls Tryd.prog 85 #[.slice (some ⟨b, off, none⟩) n cap] w fun e w' => ∃ k : Nat, e = .returned (.int .i64 k) ∧ M1.Brk n (f 0) (f 1) (f 2) k ∧ Below w.heap.size w w' := by
  unfold maxLen at hm
  have hlt := hB.lt (by omega)
  have hn1 : (1 : Int) ≤ (n : Int) := by omega
  have hc1 : (n : Int) ≤ (cap : Int) := by omega
  go_enter Tryd.func85, Tryd.ntmps85
  go_wp2
  go_loopw [3] (fun s wr => ∃ k : Nat, 1 ≤ k ∧ k ≤ n ∧ s = .int .i64 k ∧ (∀ j, 2 ≤ j → j ≤ k → M1.fullB j (f 0) (f 1) (f 2) = false) ∧ Below w.heap.size w wr) (fun s _ => n - (RowKit.intOf s).toNat)
  case atStart => exact ⟨1, by omega, by omega, rfl, fun j a b => by omega, Below.refl _ _⟩
  case round =>
    obtain ⟨k, hk1, hkn, rfl, hfs, hb⟩ := hrel
    have HF := Lib.hid hfs
    clear hfs
    by_cases hlt : k < n
    · have hki : (k : Int) + 1 ≤ (n : Int) := by omega
      have hT' := Lib.hid (hT.below hb (by have := hT.2; omega))
      have hB' := Lib.hid (hB.below hb (by omega))
      have C := fun W (h1 : Tabs W) (h2 : Bs W b off n f) => full_any b off (k + 1) cap n f W h1 h2 (by omega) (by omega)
      cases hv : M1.fullB (k + 1) (f 0) (f 1) (f 2)
      · rw [hv] at C
        have C := Lib.hid C
        have HV := Lib.hid hv
        clear hv
        go_wp2_with (go_at_call 103; refine (C.out _ hT'.out hB'.out).mono ?_; rintro e w1 ⟨rfl, hb1⟩)
        go_roundw
        case rel => exact ⟨k + 1, by omega, by omega, by go_num, fun j a c => by
          rcases Nat.lt_or_ge k j with h | h
          · obtain rfl : j = k + 1 := by omega
            exact HV.out
          · exact HF.out j a h, hb.trans (hb1.mono hb.size)⟩
        case measure => simp [RowKit.intOf]; omega
      · rw [hv] at C
        have C := Lib.hid C
        have HV := Lib.hid hv
        clear hv
        go_wp2_with (go_at_call 103; refine (C.out _ hT'.out hB'.out).mono ?_; rintro e w1 ⟨rfl, hb1⟩)
        go_ret
        exact ⟨k, rfl, ⟨hk1, hkn, HF.out, fun _ => HV.out⟩, hb.trans (hb1.mono hb.size)⟩
    · have hki : (n : Int) ≤ (k : Int) := by omega
      go_wp2
      go_ret
      exact ⟨k, rfl, ⟨hk1, hkn, HF.out, fun h => absurd h hlt⟩, hb⟩

end Go.Proofs.YtpimadgcojgjaaaDoor.S
