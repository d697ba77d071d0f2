/-
  EntityNames: the walk of the law.
-/
import Derived.Test.YtpimadgcojgjaaaDoorAwa
import Derived.Test.YtpimadgcojgjaaaDoorNms
namespace Go.Proofs.YtpimadgcojgjaaaDoor
open Go.RowKit Go.Shelf Go.Lib Go.Maps Go.Great

set_option maxRecDepth 100000 in
theorem ge_rows (W : World) : ∀ (k : Nat) (x y : NmE), nmE[k]? = some x → nmE[k + 1]? = some y → (binOp .geq 9 (.string ⟨x.1.toArray⟩) (.string ⟨y.1.toArray⟩)).run Tryd.prog W = .ok (.bool false) W
  | 0, _, _, h, h2 => by cases h; cases h2; kernel_rfl
  | 1, _, _, h, h2 => by cases h; cases h2; kernel_rfl
  | 2, _, _, h, h2 => by cases h; cases h2; kernel_rfl
  | 3, _, _, h, h2 => by cases h; cases h2; kernel_rfl
  | 4, _, _, h, h2 => by cases h; cases h2; kernel_rfl
  | 5, _, _, h, h2 => by cases h; cases h2; kernel_rfl
  | 6, _, _, h, h2 => by cases h; cases h2; kernel_rfl
  | 7, _, _, h, h2 => by cases h; cases h2; kernel_rfl
  | 8, _, _, h, h2 => by cases h; cases h2; kernel_rfl
  | 9, _, _, h, h2 => by cases h; cases h2; kernel_rfl
  | 10, _, _, h, h2 => by cases h; cases h2; kernel_rfl
  | 11, _, _, h, h2 => by cases h; cases h2; kernel_rfl
  | 12, _, _, h, h2 => by cases h; cases h2; kernel_rfl
  | 13, _, _, h, h2 => by cases h; cases h2; kernel_rfl
  | 14, _, _, h, h2 => by cases h; cases h2; kernel_rfl
  | 15, _, _, h, h2 => by cases h; cases h2; kernel_rfl
  | 16, _, _, h, h2 => by cases h; cases h2; kernel_rfl
  | 17, _, _, h, h2 => by cases h; cases h2; kernel_rfl
  | 18, _, _, h, h2 => by cases h; cases h2; kernel_rfl
  | 19, _, _, h, h2 => by cases h; cases h2; kernel_rfl
  | 20, _, _, h, h2 => by cases h; cases h2; kernel_rfl
  | 21, _, _, h, h2 => by cases h; cases h2; kernel_rfl
  | 22, _, _, h, h2 => by cases h; cases h2; kernel_rfl
  | 23, _, _, h, h2 => by cases h; cases h2; kernel_rfl
  | 24, _, _, h, h2 => by cases h; cases h2; kernel_rfl
  | k + 25, x, y, h, h2 => by
    have := (List.getElem?_eq_some_iff.1 h2).1
    rw [nmE_len] at this
    omega
theorem nm_uni : (nmE.all fun x => nmE.all fun y => !(x.1 == y.1) || (x == y)) = true := by decide +kernel
attribute [local irreducible] NR ZNR FR nmE NL
theorem nm_find {k : Nat} {x : NmE} (hx : nmE[k]? = some x) : nmE.find? (isNm x.1) = some x := by
  have hm := List.mem_of_getElem? hx
  cases hf : nmE.find? (isNm x.1) with
  | none =>
    rw [List.find?_eq_none] at hf
    exact absurd (by simp [isNm]) (hf x hm)
  | some y =>
    have h1 := List.find?_some hf
    have h2 := List.mem_of_find?_eq_some hf
    have h3 := List.all_eq_true.1 (List.all_eq_true.1 nm_uni y h2) x hm
    have h4 : y.1 = x.1 := by simpa [isNm] using h1
    rw [h4] at h3
    simp at h3
    rw [h3]
theorem any_snoc {k : Nat} {x : NmE} (hx : nmE[k]? = some x) (n : List UInt8) : (nmE.take (k + 1)).any (isNm n) = ((nmE.take k).any (isNm n) || isNm n x) := by
  rw [List.take_add_one, hx, Option.toList_some, List.any_append]
  simp
theorem any_find (n : List UInt8) : (nmE.take 26).any (isNm n) = (nmE.find? (isNm n)).isSome := by
  rw [List.take_of_length_le (by rw [nmE_len]; exact Nat.le_refl _)]
  rw [Bool.eq_iff_iff, List.any_eq_true, List.find?_isSome]
theorem OwnS.open {w : World} {base : Nat} {v : Value} (h : OwnS w base NL v) : ∃ g cap, v = .slice (some ⟨g, 0, none⟩) 26 cap ∧ g < w.heap.size ∧ ∀ (k : Nat) (x : NmE), nmE[k]? = some x → w.cell? ⟨g, k, none⟩ = some (.string ⟨x.1.toArray⟩) := by
  rcases h.2 with ⟨h1, h2⟩ | ⟨g, cap, cur, h1, h2, h3, h4, h5, h6, h7⟩
  · rw [NL_len] at h2
    cases h2
  · rw [NL_len] at h1
    refine ⟨g, cap, h1, (Array.getElem?_eq_some_iff.1 h3).1, fun k x hx => ?_⟩
    have hc := World.ownsRow.cells h (g := g) (by rw [h1]; rfl) k (.string ⟨x.1.toArray⟩) (by rw [strC, List.getElem?_map, NL_at hx]; rfl)
    rw [add0] at hc
    exact hc
set_option maxHeartbeats 8000000 in
set_option maxRecDepth 100000 in
theorem namesLaw_any (n : List UInt8) (w : World) (hT : S.Tabs w) :
    Calls Tryd.prog 6 #[.string ⟨n.toArray⟩] w fun r w' => r = .returned (.bool true) ∧ Below w.heap.size w w' := by
  have hA := awake16_any w hT
  obtain ⟨N, hN⟩ : ∃ N, n.length = N := ⟨_, rfl⟩
  by_cases hl : 60 < N
  · have hl2 : (60 : Int) < (N : Int) := by omega
    have HA := Lib.hid hA
    clear hA hT
    go_enter Tryd.func6, Tryd.ntmps6
    go_wp2_with fail
    refine HA.out.mono ?_
    rintro r w1 ⟨rfl, hb1⟩
    go_wp2_with fail
    go_ret
    exact ⟨rfl, hb1⟩
  · have hl2 : ¬ (60 : Int) < (N : Int) := by omega
    have HA := Lib.hid hA
    clear hA hT
    go_enter Tryd.func6, Tryd.ntmps6
    go_wp2_with fail
    refine HA.out.mono ?_
    rintro r w1 ⟨rfl, hb1⟩
    have H1 := Lib.hid hb1
    clear hb1
    go_wp2_with fail
    refine (names_any _).mono ?_
    rintro r w2 ⟨v, base, rfl, hv, hb2⟩
    obtain ⟨g, cap, rfl, hg, hcell⟩ := hv.open
    have H2 := Lib.hid (And.intro hg (And.intro hcell (H1.out.trans (hb2.mono H1.out.size))))
    clear hv hb2 hg hcell
    go_wp2_with fail
    refine (refNames_any _).mono ?_
    rintro r w3 ⟨rfl, hw3⟩
    have hb3 : Below w2.heap.size w2 w3 := by rw [hw3]; exact below_new _ _
    have x3 : Cells w3 w2.heap.size 39 NR := by rw [hw3]; exact cells_new _ _ _
    obtain ⟨g2, hg2⟩ : ∃ g, w2.heap.size = g := ⟨_, rfl⟩
    have F := find_any w3 n
    have H3 := Lib.hid (And.intro x3 (And.intro (H2.out.2.2.trans (hb3.mono H2.out.2.2.size)) (And.intro hb3 (And.intro F hg2))))
    clear x3 hb3 F hw3
    go_wp2_with fail
    refine H3.out.2.2.2.1.mono ?_
    rintro r w4 ⟨rfl, hb4⟩
    have b24 := H3.out.2.2.1.trans (hb4.mono H3.out.2.2.1.size)
    have hc4 : ∀ (k : Nat) (x : NmE), nmE[k]? = some x → w4.cell? ⟨g, k, none⟩ = some (.string ⟨x.1.toArray⟩) := fun k x hx => (b24.cell (p := ⟨g, k, none⟩) H2.out.1).trans (H2.out.2.1 k x hx)
    have x4 := H3.out.1.on hb4
    rw [hg2] at x4
    have bw4 := H3.out.2.1.trans (hb4.mono H3.out.2.1.size)
    have hgl : g < w4.heap.size := Nat.lt_of_lt_of_le H2.out.1 b24.size
    have H4 := Lib.hid (And.intro hc4 (And.intro x4 (And.intro bw4 hgl)))
    clear hc4 x4 bw4 hgl b24 hb4
    have HG := Lib.hid ge_rows
    obtain ⟨OK, hOK⟩ : ∃ b, (nmE.find? (isNm n)).isSome = b := ⟨_, rfl⟩
    obtain ⟨RR, hRR⟩ : ∃ b, Option.getD ((nmE.find? (isNm n)).map (·.2)) 0 = b := ⟨_, rfl⟩
    rw [hOK, hRR]
    have HOK := Lib.hid (And.intro hOK hRR)
    clear hOK hRR
    go_wp2_with fail
    go_loopw [7, 8] (fun f i wr => ∃ k : Nat, i = .int .i64 (k : Int) ∧ k ≤ 26 ∧ f = .bool ((nmE.take k).any (isNm n)) ∧ Below w4.heap.size w4 wr) (fun _ i _ => 26 - (RowKit.intOf i).toNat)
    case atStart => exact ⟨0, rfl, by decide, rfl, Below.refl _ _⟩
    case round =>
      obtain ⟨k, rfl, hk, rfl, hb⟩ := hrel
      by_cases hlt : k < 26
      case neg =>
        obtain rfl : k = 26 := by omega
        rw [any_find, HOK.out.1]
        have HB := Lib.hid (H4.out.2.2.1.trans (hb.mono H4.out.2.2.1.size))
        have hz : OK = false → RR = 0 := fun e => by
          have h1 := HOK.out.1
          rw [e] at h1
          have h2 : nmE.find? (isNm n) = none := by simpa using h1
          rw [← HOK.out.2, h2]
          rfl
        have HZ := Lib.hid hz
        clear hb hz
        cases OK with
        | true =>
          go_wp2_with fail
          go_ret
          exact ⟨rfl, HB.out⟩
        | false =>
          have hr0 : RR = 0 := HZ.out rfl
          subst hr0
          go_wp2_with fail
          go_ret
          exact ⟨rfl, HB.out⟩
      case pos =>
        have i1 : (k : Int) < 26 := by omega
        obtain ⟨⟨s, z⟩, hx⟩ := at_lt (l := nmE) (k := k) (by rw [nmE_len]; exact hlt)
        have c0 : wr.cell? ⟨g, k, none⟩ = some (.string ⟨s.toArray⟩) := (hb.cell (p := ⟨g, k, none⟩) H4.out.2.2.2).trans (H4.out.1 k _ hx)
        have xr : Cells wr g2 39 NR := (hb.block _ H4.out.2.1.lt).trans H4.out.2.1
        obtain ⟨r0, r1⟩ := NR_at hx
        have c1 : wr.cell? ⟨g2, k * 2, none⟩ = some (.string ⟨s.toArray⟩) := (Cells.cell xr (k * 2)).trans r0
        have c2 : wr.cell? ⟨g2, k * 2 + 1, none⟩ = some (.int .i32 z) := (Cells.cell xr (k * 2 + 1)).trans r1
        have ha := any_snoc hx n
        have hn : isNm n (s, z) = true → RR = z := fun e => by
          have e2 : s = n := by simpa [isNm] using e
          have := nm_find hx
          rw [e2] at this
          rw [← HOK.out.2, this]
          rfl
        have HK := Lib.hid (And.intro hb (And.intro ha (And.intro hn hx)))
        clear hb xr r0 r1 ha hn
        have hend : ∀ dq, Below w4.heap.size w4 (wr.drewN dq) := fun dq => below_drewN HK.out.1 dq
        have HEND := Lib.hid hend
        clear hend
        have c0n : ∀ d, (wr.drewN d).cell? ⟨g, k, none⟩ = some (.string ⟨s.toArray⟩) := fun d => c0
        have c2n : ∀ d, (wr.drewN d).cell? ⟨g2, k * 2 + 1, none⟩ = some (.int .i32 z) := fun d => c2
        by_cases he : s = n
        case pos =>
          have hrz := HK.out.2.2.1 (by simpa [isNm] using he)
          have hf2 : (nmE.take (k + 1)).any (isNm n) = true := by
            have := HK.out.2.1
            rw [show isNm n (s, z) = true by simpa [isNm] using he, Bool.or_true] at this
            exact this
          have HF2 := Lib.hid (And.intro hf2 (And.intro hrz he))
          clear hf2
          subst hrz
          subst he
          rcases k with _ | j
          · clear hx
            go_wp2_with go_quiet (fail)
            go_roundw
            case rel => exact ⟨1, rfl, by decide, by rw [HF2.out.1], HEND.out _⟩
            case measure => exact (by decide)
          · obtain ⟨⟨s', z'⟩, hx'⟩ := at_lt (l := nmE) (k := j) (by rw [nmE_len]; omega)
            have c3 : wr.cell? ⟨g, j, none⟩ = some (.string ⟨s'.toArray⟩) := (HK.out.1.cell (p := ⟨g, j, none⟩) H4.out.2.2.2).trans (H4.out.1 j _ hx')
            have hge := fun W => HG.out W j _ _ hx' hx
            dsimp only at hge
            have w2' : wrap64 (j : Int) = (j : Int) := by unfold wrap64; omega
            clear hx hx'
            go_wp2_with go_quiet (fail)
            go_roundw
            case rel => exact ⟨j + 1 + 1, by go_num, by omega, by rw [HF2.out.1], HEND.out _⟩
            case measure => simp [RowKit.intOf]; omega
        case neg =>
          have hf2 : (nmE.take (k + 1)).any (isNm n) = (nmE.take k).any (isNm n) := by
            have := HK.out.2.1
            rw [show isNm n (s, z) = false by simpa [isNm] using he, Bool.or_false] at this
            exact this
          have hs2 : (s == n) = false := by simpa using he
          have HF2 := Lib.hid hf2
          clear hf2
          generalize hfk : (nmE.take k).any (isNm n) = fk at *
          have HFK := Lib.hid hfk
          clear hfk
          rcases k with _ | j
          · clear hx
            go_wp2_with go_quiet (fail)
            go_roundw
            case rel => exact ⟨1, rfl, by decide, by rw [HF2.out], HEND.out _⟩
            case measure => exact (by decide)
          · obtain ⟨⟨s', z'⟩, hx'⟩ := at_lt (l := nmE) (k := j) (by rw [nmE_len]; omega)
            have c3 : wr.cell? ⟨g, j, none⟩ = some (.string ⟨s'.toArray⟩) := (HK.out.1.cell (p := ⟨g, j, none⟩) H4.out.2.2.2).trans (H4.out.1 j _ hx')
            have hge := fun W => HG.out W j _ _ hx' hx
            dsimp only at hge
            have w2' : wrap64 (j : Int) = (j : Int) := by unfold wrap64; omega
            clear hx hx'
            go_wp2_with go_quiet (fail)
            go_roundw
            case rel => exact ⟨j + 1 + 1, by go_num, by omega, by rw [HF2.out], HEND.out _⟩
            case measure => simp [RowKit.intOf]; omega
end Go.Proofs.YtpimadgcojgjaaaDoor
