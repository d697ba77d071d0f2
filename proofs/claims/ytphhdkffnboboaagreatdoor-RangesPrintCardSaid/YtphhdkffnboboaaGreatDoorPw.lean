/-
  RangesPrint: the law's walk.
-/
import Derived.Test.YtphhdkffnboboaaGreatDoorPd
namespace Go.Proofs.YtphhdkffnboboaaGreatDoor
open Go.RowKit Go.Shelf
open Go.Lib

theorem parseF_len {L : List UInt8} {rs : List Rng} (h : parseF L = some rs) : rs.length ≤ 1000 := by
  unfold parseF at h
  split at h
  · obtain rfl : [] = rs := by simpa using h
    simp
  · split at h
    · cases h
    · rename_i hc
      split at h
      · split at h
        · obtain rfl := Option.some.inj h
          have h1 : ((splitC L).filterMap prP).length ≤ (splitC L).length := List.length_filterMap_le _ _
          rw [splitC_len] at h1
          omega
        · cases h
      · cases h
theorem known_len (xs : List Rng) : (known xs).length ≤ xs.length := by
  unfold known
  split <;> simp
theorem setText_len (xs : List Rng) (h : right xs = true) : (setText xs).length ≤ 18 * xs.length + 4 := by
  unfold setText
  split
  · simp
  · have := listText_len xs (fun x hm => (right_may (b := -1) h x hm).1)
    omega

set_option maxHeartbeats 8000000 in
set_option maxRecDepth 100000 in
theorem print_walk (A1 : Option Addr) (c1 : Nat) (xs : List Rng) (s : List UInt8) (w : World) (hT : TZ w) (hM : MX w) (hE : EV w) (h1 : AW w A1 c1 xs) (hs : s.length ≤ 9223372036854775807) :
    Calls Tryz.prog 3 #[.slice A1 xs.length c1, .string ⟨s.toArray⟩] w fun e w' => e = .returned (.bool true) ∧ Below w.heap.size w w' := by
  have HA := Lib.hid awake2_any
  have GT := Lib.hid hT
  have GM := Lib.hid hM
  have GE := Lib.hid hE
  have S1 := Lib.hid h1
  have m1 : xs.length ≤ 9223372036854775807 := by have := h1.r.1; have := h1.r.2.1; unfold maxLen at this; omega
  clear hT h1 hM hE
  by_cases hl1 : 30 < xs.length
  · have d1 : (30 : Int) < (xs.length : Int) := by omega
    go_enter Tryz.func3, Tryz.ntmps3
    go_wp2_with fail
    refine (HA.out _ GT.out).mono ?_
    rintro e w1 ⟨rfl, hb⟩
    go_wp2
    go_ret
    exact ⟨rfl, hb⟩
  have d1 : decide ((30 : Int) < (xs.length : Int)) = false := by simp; omega
  by_cases hl2 : 200 < s.length
  · have d2 : (200 : Int) < (s.length : Int) := by omega
    go_enter Tryz.func3, Tryz.ntmps3
    go_wp2_with fail
    refine (HA.out _ GT.out).mono ?_
    rintro e w1 ⟨rfl, hb⟩
    go_wp2
    go_ret
    exact ⟨rfl, hb⟩
  have d2 : decide ((200 : Int) < (s.length : Int)) = false := by simp; omega
  have hkr := known_right xs
  have hkl := known_len xs
  have hK1 := Lib.hid (fun W h => known_sp A1 c1 xs W h)
  have hP1 := Lib.hid (fun A c W (h : SW W A c xs) (hT : TZ W) => print_any A c xs W h.r hT (by omega))
  have htl := setText_len _ hkr
  generalize known xs = K at *
  have hpt := parseF_text K hkr (by omega)
  have hPt := Lib.hid (fun W hM hE hT => parse_any (setText K) W (by omega) hM hE hT)
  rw [hpt] at hPt
  have hR1 := Lib.hid (fun A c W (h : AW W A c K) => rprint_any A c K W h.r (fun x hm => (right_may (b := -1) hkr x hm).1) (by omega))
  have hI1 := Lib.hid (fun A c A' c' W (h : SW W A c K) (h' : AW W A' c' K) => is_any A c K A' c' K W h.r h'.r)
  simp only [decide_true] at hI1
  have hPs := Lib.hid (fun W hM hE hT => parse_any s W (by omega) hM hE hT)
  have HF := Lib.hid (And.intro (@parseF_right s) (@parseF_len s))
  generalize setText K = T at *
  clear hpt htl hkr
  obtain ⟨R, hR⟩ : ∃ R, parseF s = R := ⟨_, rfl⟩
  rw [hR] at hPs HF
  clear hR
  go_enter Tryz.func3, Tryz.ntmps3
  go_wp2_with fail
  refine (HA.out _ GT.out).mono ?_
  rintro e w1 ⟨rfl, hb1⟩
  have S1 := Lib.hid (S1.out.below hb1)
  have GT := Lib.hid (GT.out.below hb1)
  have GM := Lib.hid (GM.out.below hb1)
  have GE := Lib.hid (GE.out.below hb1)
  go_wp2_with fail
  refine (hK1.out _ S1.out).mono ?_
  rintro e w2 ⟨A2, c2, rfl, s, hb⟩
  have GT := Lib.hid (GT.out.below hb)
  have GM := Lib.hid (GM.out.below hb)
  have GE := Lib.hid (GE.out.below hb)
  have S1 := Lib.hid (S1.out.below hb)
  have K1 := Lib.hid s
  have hb2 := hb1.trans (hb.mono hb1.size)
  clear hb hb1 s
  go_wp2_with fail
  refine (to_sp A1 c1 xs _ S1.out (by omega)).mono ?_
  rintro e w3 ⟨A3, c3, rfl, s, hb⟩
  have GT := Lib.hid (GT.out.below hb)
  have GM := Lib.hid (GM.out.below hb)
  have GE := Lib.hid (GE.out.below hb)
  have K1 := Lib.hid (K1.out.below hb)
  have X1 := Lib.hid s
  have hb3 := hb2.trans (hb.mono hb2.size)
  clear hb hb2 s
  go_wp2_with fail
  refine (hP1.out _ _ _ X1.out GT.out).mono ?_
  rintro e w4 ⟨rfl, hb⟩
  have GT := Lib.hid (GT.out.below hb)
  have GM := Lib.hid (GM.out.below hb)
  have GE := Lib.hid (GE.out.below hb)
  have K1 := Lib.hid (K1.out.below hb)
  have hb4 := hb3.trans (hb.mono hb3.size)
  clear hb hb3
  go_wp2_with fail
  refine (hPt.out _ GM.out GE.out GT.out).mono ?_
  rintro e w5 ⟨hb, A4, c4, rfl, s⟩
  have GT := Lib.hid (GT.out.below hb)
  have GM := Lib.hid (GM.out.below hb)
  have GE := Lib.hid (GE.out.below hb)
  have K1 := Lib.hid (K1.out.below hb)
  have Y1 := Lib.hid s
  have hb5 := hb4.trans (hb.mono hb4.size)
  clear hb hb4 s
  go_wp2_with fail
  refine (hR1.out _ _ _ K1.out).mono ?_
  rintro e w6 ⟨rfl, hb⟩
  have GT := Lib.hid (GT.out.below hb)
  have GM := Lib.hid (GM.out.below hb)
  have GE := Lib.hid (GE.out.below hb)
  have K1 := Lib.hid (K1.out.below hb)
  have Y1 := Lib.hid (Y1.out.below hb)
  have hb6 := hb5.trans (hb.mono hb5.size)
  clear hb hb5
  go_wp2_with fail
  refine (hI1.out _ _ _ _ _ Y1.out K1.out).mono ?_
  rintro e w7 ⟨rfl, hb⟩
  have GT := Lib.hid (GT.out.below hb)
  have GM := Lib.hid (GM.out.below hb)
  have GE := Lib.hid (GE.out.below hb)
  have hb7 := hb6.trans (hb.mono hb6.size)
  clear hb hb6
  rcases R with _ | rs
  · go_wp2_with fail
    refine (hPs.out _ GM.out GE.out GT.out).mono ?_
    rintro e w8 ⟨hb, rfl⟩
    have hbz := hb7.trans (hb.mono hb7.size)
    clear hb hb7
    go_wp2
    go_ret
    exact ⟨rfl, hbz⟩
  · go_wp2_with fail
    refine (hPs.out _ GM.out GE.out GT.out).mono ?_
    rintro e w8 ⟨hb, A5, c5, rfl, s5⟩
    have GT := Lib.hid (GT.out.below hb)
    have hbz := hb7.trans (hb.mono hb7.size)
    obtain ⟨r1, r2⟩ := HF.out.1 rfl
    have r3 := HF.out.2 rfl
    have D1 := Lib.hid (right_any A5 c5 rs _ s5.r)
    rw [r1] at D1
    have D2 := Lib.hid (fun W hb => print_any A5 c5 rs W (s5.below hb).r (GT.out.below hb) r3)
    rw [known_of r1, r2] at D2
    clear hb hb7 s5 r1 r2 r3
    go_wp2_with fail
    refine D1.out.mono ?_
    rintro e w9 ⟨rfl, hb⟩
    have D3 := Lib.hid (D2.out _ hb)
    have hby := hbz.trans (hb.mono hbz.size)
    clear hb hbz
    go_wp2_with fail
    refine D3.out.mono ?_
    rintro e w10 ⟨rfl, hb⟩
    have hbx := hby.trans (hb.mono hby.size)
    go_wp2
    go_ret
    exact ⟨rfl, hbx⟩
end Go.Proofs.YtphhdkffnboboaaGreatDoor
