/-
  AnsiReads, AnsiGrows: the walks of the laws.
-/
import Derived.Test.YtpimadgcojgjaaaDoorAwk
import Derived.Test.YtpimadgcojgjaaaDoorApe
namespace Go.Proofs.YtpimadgcojgjaaaDoor
open Go.RowKit Go.Shelf Go.Lib Go.Maps

theorem refN_small : ∀ (r out : List Nat) (cur d : Nat) (l : List Nat), refN out cur d r = some l → (∀ x ∈ out, x ≤ 99999) → cur + 1 ≤ 10 ^ d → d ≤ 5 → ∀ x ∈ l, x ≤ 99999
  | [], out, cur, d, l, h, ho, hc, hd, x, hx => by
    rw [refN] at h
    injection h with h
    subst h
    rcases List.mem_append.1 hx with hx | hx
    · exact ho x hx
    · simp at hx
      subst hx
      exact pow5 hc hd
  | c :: r, out, cur, d, l, h, ho, hc, hd, x, hx => by
    rw [refN] at h
    split at h
    · refine refN_small r _ 0 0 l h (fun y hy => ?_) (by decide) (by decide) x hx
      rcases List.mem_append.1 hy with hy | hy
      · exact ho y hy
      · simp at hy
        subst hy
        exact pow5 hc hd
    · split at h
      · rename_i hh
        have h1 : 48 ≤ c ∧ c ≤ 57 := by simpa [dig, inR] using hh.1
        exact refN_small r out _ (d + 1) l h ho (pow_next hc (by omega)) (by omega) x hx
      · cases h
theorem numsAt_small {xs : List Nat} {I : Int} : ∀ x ∈ natI ((numsAt xs I).getD []), i64 x := by
  intro x hx
  simp [natI] at hx
  obtain ⟨y, hy, rfl⟩ := hx
  suffices y ≤ 99999 by unfold i64; omega
  unfold numsAt numbersT at hy
  split at hy
  · simp at hy
  · split at hy
    · cases e : refN [] 0 0 (midL (xs.drop I.toNat)) with
      | none => rw [e] at hy; simp at hy
      | some l =>
        rw [e] at hy
        exact refN_small _ [] 0 0 l e (by simp) (by decide) (by decide) y hy
    · simp at hy
/-- What a list of numbers that was answered is in memory. -/
theorem NumsOk.open {w : World} {xs : List Nat} {I : Int} {r : Ending} {w' : World} (h : NumsOk w (numsAt xs I) r w') : ∃ A cap, r = .returned (.tuple #[.slice A (natI ((numsAt xs I).getD [])).length cap, .bool (numsAt xs I).isSome]) ∧ IS w' w'.heap.size (natI ((numsAt xs I).getD [])) A cap ∧ Below w.heap.size w w' := by
  obtain ⟨v, rfl, ho, hb⟩ := h
  obtain ⟨A, cap, rfl, hi, _⟩ := ho.is numsAt_small
  exact ⟨A, cap, rfl, hi, hb⟩
set_option maxHeartbeats 8000000 in
set_option maxRecDepth 100000 in
theorem readsLaw_any (xs : List Nat) (A : Option Addr) (cap : Nat) (I : Int) (w : World) (hm : MX w) (h : BY w w.heap.size xs A cap) :
    Calls Tryd.prog 8 #[.slice A xs.length cap, .int .i64 I] w fun r w' => r = .returned (.bool true) ∧ Below w.heap.size w w' := by
  have hlen := h.len
  by_cases hl : 200 < xs.length
  · have hA := awake_any w hm
    obtain ⟨N, hN⟩ : ∃ N, xs.length = N := ⟨_, rfl⟩
    rw [hN] at hl hlen ⊢
    have i1 : (200 : Int) < (N : Int) := by omega
    have HA := Lib.hid hA
    clear h hN hl hA hm
    go_enter Tryd.func8, Tryd.ntmps8
    go_wp2_with fail
    refine HA.out.mono ?_
    rintro r w1 ⟨rfl, hb1⟩
    have HB := Lib.hid hb1
    clear hb1
    go_wp2_with fail
    go_ret
    exact ⟨rfl, HB.out⟩
  have K1 := fun W (hb : Below w.heap.size w W) => read_any xs A cap I W (h.on hb)
  have K2 := fun W (hb : Below w.heap.size w W) => refRead_any xs A cap I W (h.on hb)
  have K3 := fun W (hb : Below w.heap.size w W) => numbers_any xs A cap I (by omega) W (h.on hb) (hm.on hb)
  have K4 := fun W (hb : Below w.heap.size w W) => refNumbers_any xs A cap I (by omega) W (h.on hb)
  have hop := fun w1 r w2 => NumsOk.open (w := w1) (xs := xs) (I := I) (r := r) (w' := w2)
  obtain ⟨E, hE⟩ : ∃ E, readAt xs I = E := ⟨_, rfl⟩
  rw [hE] at K1 K2
  obtain ⟨S, Wh, Op, La⟩ := E
  unfold escV at K1 K2
  dsimp only at K1 K2
  obtain ⟨O, hO⟩ : ∃ O, numsAt xs I = O := ⟨_, rfl⟩
  rw [hO] at K3 K4 hop
  obtain ⟨L, hL⟩ : ∃ L, natI (O.getD []) = L := ⟨_, rfl⟩
  obtain ⟨B, hBo⟩ : ∃ B, O.isSome = B := ⟨_, rfl⟩
  rw [hL, hBo] at hop
  obtain ⟨M, hM⟩ : ∃ M, L.length = M := ⟨_, rfl⟩
  rw [hM] at hop
  obtain ⟨N, hN⟩ : ∃ N, xs.length = N := ⟨_, rfl⟩
  rw [hN] at hl hlen K1 K2 K3 K4 ⊢
  have i1 : ¬ (200 : Int) < (N : Int) := by omega
  have HA := Lib.hid (And.intro (awake_any w hm) (And.intro K1 (And.intro K2 (And.intro K3 (And.intro K4 (And.intro hop hM))))))
  clear h hN hl hm K1 K2 K3 K4 hop hE hO hL hBo hM
  go_enter Tryd.func8, Tryd.ntmps8
  go_wp2_with fail
  refine HA.out.1.mono ?_
  rintro r w1 ⟨rfl, hb1⟩
  have HB1 := Lib.hid hb1
  clear hb1
  go_wp2_with fail
  refine (HA.out.2.1 _ HB1.out).mono ?_
  rintro r w2 ⟨rfl, hb2⟩
  have HB2 := Lib.hid (HB1.out.trans (hb2.mono HB1.out.size))
  clear hb2
  go_wp2_with fail
  refine (HA.out.2.2.1 _ HB2.out).mono ?_
  rintro r w3 ⟨rfl, hb3⟩
  have HB3 := Lib.hid (HB2.out.trans (hb3.mono HB2.out.size))
  clear hb3
  obtain ⟨W4, hW4⟩ : ∃ W, (w3.alloc (.cells #[.int .i64 (S : Int), .bool Wh, .bool Op, .int .u8 (La : Int)] 42)).alloc (.cells #[.int .i64 (S : Int), .bool Wh, .bool Op, .int .u8 (La : Int)] 44) = W := ⟨_, rfl⟩
  have x1 : Cells W4 w3.heap.size 42 #[.int .i64 (S : Int), .bool Wh, .bool Op, .int .u8 (La : Int)] := by
    rw [← hW4]; exact (cells_new _ _ _).on (below_new _ _)
  have x2 : Cells W4 (w3.heap.size + 1) 44 #[.int .i64 (S : Int), .bool Wh, .bool Op, .int .u8 (La : Int)] := by
    have := cells_new (w3.alloc (.cells #[.int .i64 (S : Int), .bool Wh, .bool Op, .int .u8 (La : Int)] 42)) #[.int .i64 (S : Int), .bool Wh, .bool Op, .int .u8 (La : Int)] 44
    rw [hW4, World.size_alloc] at this
    exact this
  have b4 : Below w.heap.size w W4 := by rw [← hW4]; exact below_lit (below_lit HB3.out _) _
  have HX := Lib.hid (And.intro x1 (And.intro x2 b4))
  have HW4 := Lib.hid hW4
  clear x1 x2 b4 hW4
  go_wp2_with fail
  rw [HW4.out]
  refine (HA.out.2.2.2.1 _ HX.out.2.2).mono ?_
  intro r w5 h5
  obtain ⟨A1, c1, rfl, hi1, hb5⟩ := HA.out.2.2.2.2.2.1 _ _ _ h5
  have b5 := HX.out.2.2.trans (hb5.mono HX.out.2.2.size)
  have H5 := Lib.hid (And.intro (HX.out.1.on hb5) (And.intro (HX.out.2.1.on hb5) (And.intro b5 hi1)))
  clear h5 hi1 hb5 b5
  go_wp2_with fail
  refine (HA.out.2.2.2.2.1 _ H5.out.2.2.1).mono ?_
  intro r w6 h6
  obtain ⟨A2, c2, rfl, hi2, hb6⟩ := HA.out.2.2.2.2.2.1 _ _ _ h6
  have b6 := H5.out.2.2.1.trans (hb6.mono H5.out.2.2.1.size)
  have x1 := H5.out.1.on hb6
  have x2 := H5.out.2.1.on hb6
  have p0 := x1.cell 0
  have p1 := x1.cell 1
  have p2 := x1.cell 2
  have p3 := x1.cell 3
  have q0 := x2.cell 0
  have q1 := x2.cell 1
  have q2 := x2.cell 2
  have q3 := x2.cell 3
  simp at p0 p1 p2 p3 q0 q1 q2 q3
  have hm64 : M ≤ 9223372036854775807 := by
    have h1 := hi2.l
    have h2 := hi2.m
    unfold maxLen at h2
    rw [HA.out.2.2.2.2.2.2] at h1
    omega
  have H6 := Lib.hid (And.intro b6 (And.intro (H5.out.2.2.2.on hb6) hi2))
  clear h6 hi2 hb6 b6 x1 x2
  go_wp2_with fail
  clear p0 p1 p2 p3 q0 q1 q2 q3
  go_loopw [11] (fun i wr => ∃ k : Nat, i = .int .i64 (k : Int) ∧ k ≤ M ∧ Below w6.heap.size w6 wr) (fun i _ => M - (RowKit.intOf i).toNat)
  case atStart => exact ⟨0, by go_num, by omega, Below.refl _ _⟩
  case round =>
    obtain ⟨k, rfl, hk, hb⟩ := hrel
    by_cases hlt : k < M
    · have i2 : (k : Int) < (M : Int) := by omega
      obtain ⟨x, hx⟩ := at_lt (l := L) (k := k) (by rw [HA.out.2.2.2.2.2.2]; exact hlt)
      obtain ⟨b, o, rfl, hbl, d0⟩ := H6.out.2.1.at hx
      obtain ⟨b', o', rfl, hbl', d1⟩ := H6.out.2.2.at hx
      have d0 := (hb.cell (p := ⟨b, o + k, none⟩) hbl).trans d0
      have d1 := (hb.cell (p := ⟨b', o' + k, none⟩) hbl').trans d1
      have HK := Lib.hid hb
      clear hb hx hbl hbl'
      go_wp2_with fail
      go_region
      go_wp2_with fail
      go_roundw
      case rel => exact ⟨k + 1, by go_num, by omega, HK.out.drew⟩
      case measure => simp [RowKit.intOf]; omega
    · obtain rfl : k = M := by omega
      have i2 : ¬ (k : Int) < (k : Int) := by omega
      have HK := Lib.hid hb
      clear hb
      go_wp2_with fail
      go_ret
      exact ⟨rfl, H6.out.1.trans (HK.out.mono H6.out.1.size)⟩
end Go.Proofs.YtpimadgcojgjaaaDoor
