/-
  NestBack's walk.
-/
import Derived.Test.YtojinnnpfjhifaaBck
namespace Go.Proofs.Ytojinnnpfjhifaa
open Go.RowKit Go.Shelf Go.Lib Go.Maps
attribute [local irreducible] nmL ofN

theorem take_nw (kd : Int) (nm : ByteArray) (sg : Bool) (hs : nm.size ≤ 60) (c : Ct) (hc : c.ok) (w : World) (g : Nat) (hg : w.heap.size ≤ g) (h0 : 0 < w.heap.size) (wr : World) (h : NW w g c wr) :
    Calls Try.prog 9 #[.pointer (some ⟨g, 0, none⟩), .agg #[.int .i64 kd, .int .i64 0, .int .i64 0, .string nm, .int .i32 0, .bool sg]] wr fun e w' =>
      e = .returned (.tuple #[.bool (takeF (nameN nm) kd c), .bool (takeX (nameN nm) kd c)]) ∧ NW w g (takeC (nameN nm) kd sg c) w' := by
  refine (take_any kd 0 0 nm 0 sg (by omega) g _ hc wr h.n h.m).mono ?_
  rintro e w' ⟨rfl, hn, hf⟩
  exact ⟨rfl, h.take hg h0 hn hf⟩
theorem NW.drew {w wr : World} {g : Nat} {c : Ct} (h : NW w g c wr) : NW w g c { wr with drawn := wr.drawn + 1 } :=
  ⟨h.n, ⟨h.b.os, h.b.tape, h.b.output, h.b.size, h.b.block⟩, h.m⟩
theorem tag_at {w wr : World} {L : List TG} {A : Option Addr} {cap : Nat} (h : TsAt w w.heap.size L A cap) (hb : Below w.heap.size w wr) {i : Nat} {t : TG} (ht : L[i]? = some t) :
    ∃ b o, A = some ⟨b, o, none⟩ ∧ wr.cell? ⟨b, o + i * 3, none⟩ = some (.int .i64 t.k) ∧ wr.cell? ⟨b, o + i * 3 + 1, none⟩ = some (.string t.n) ∧ wr.cell? ⟨b, o + i * 3 + 2, none⟩ = some (.bool t.s) := by
  obtain ⟨b, o, rfl, _, c0, c1, c2⟩ := (h.below hb).r i t ht
  exact ⟨b, o, rfl, c0, c1, c2⟩
/-- The first names are short. -/
def Small (l : List TG) (k : Nat) : Prop := ∀ i t, i < k → l[i]? = some t → t.n.size ≤ 60
theorem Small.next {l : List TG} {k : Nat} {t : TG} (h : Small l k) (ht : l[k]? = some t) (hs : t.n.size ≤ 60) : Small l (k + 1) := fun i u hi hu => by
  rcases Nat.lt_or_ge i k with e | e
  · exact h i u e hu
  · obtain rfl : i = k := by omega
    cases ht.symm.trans hu
    exact hs
set_option maxRecDepth 100000 in
set_option maxHeartbeats 8000000 in
theorem backLaw (l f : List TG) (Al Af : Option Addr) (cl cf : Nat) (w : World) (hl : TsAt w w.heap.size l Al cl) (hf : TsAt w w.heap.size f Af cf) (hM : MX w) :
    Calls Try.prog 5 #[.slice Al l.length cl, .slice Af f.length cf] w fun e w' => e = .returned (.bool true) ∧ Below w.heap.size w w' := by
  have AW := fun W (hb : Below w.heap.size w W) => awake_any W (hM.on hM.pos hb)
  have hpos := hM.pos
  obtain ⟨N1, hN1⟩ : ∃ N, l.length = N := ⟨_, rfl⟩
  obtain ⟨N2, hN2⟩ : ∃ N, f.length = N := ⟨_, rfl⟩
  have hcl := hl.l
  have hcf := hf.l
  have hcm := hl.m
  have hcn := hf.m
  rw [hN1] at hcl ⊢
  rw [hN2] at hcf ⊢
  have HA := Lib.hid AW
  have HH := Lib.hid (And.intro hl (And.intro hf (And.intro hN1 (And.intro hN2 (And.intro hM hpos)))))
  clear AW hl hf hM hN1 hN2 hpos
  by_cases k1 : 40 < N1
  · have i1 : (40 : Int) < (N1 : Int) := by omega
    clear k1
    go_enter Try.func5, Try.ntmps5
    go_wp2_with fail
    refine (HA.out w (Below.refl _ _)).mono ?_
    rintro e w1 ⟨rfl, hb⟩
    have HZ := Lib.hid hb
    clear hb
    go_wp2_with fail
    go_ret
    exact ⟨rfl, HZ.out⟩
  have i1 : ¬ (40 : Int) < (N1 : Int) := by omega
  by_cases k2 : 40 < N2
  · have i2 : (40 : Int) < (N2 : Int) := by omega
    clear k2
    go_enter Try.func5, Try.ntmps5
    go_wp2_with fail
    refine (HA.out w (Below.refl _ _)).mono ?_
    rintro e w1 ⟨rfl, hb⟩
    have HZ := Lib.hid hb
    clear hb
    go_wp2_with fail
    go_ret
    exact ⟨rfl, HZ.out⟩
  have i2 : ¬ (40 : Int) < (N2 : Int) := by omega
  have HK := Lib.hid (And.intro k1 k2)
  clear k1 k2
  go_enter Try.func5, Try.ntmps5
  go_wp2_with fail
  refine (HA.out w (Below.refl _ _)).mono ?_
  rintro e w1 ⟨rfl, b1⟩
  clear HA
  have CN := new_any w1
  obtain ⟨g, hge⟩ : ∃ g, w1.heap.size = g := ⟨_, rfl⟩
  have hgw : w.heap.size ≤ g := by have := b1.size; omega
  have b3 := below_new w1 (.cells (ctA ⟨0, 0, 0⟩) 47)
  have n3 : NW w g (foldT (f.take 0) ⟨0, 0, 0⟩) (w1.alloc (.cells (ctA ⟨0, 0, 0⟩) 47)) :=
    ⟨by rw [← hge]; exact cells_new _ _ _, b1.trans (b3.mono b1.size), (HH.out.2.2.2.2.1.on HH.out.2.2.2.2.2 b1).on (HH.out.2.2.2.2.1.on HH.out.2.2.2.2.2 b1).pos b3⟩
  rw [hge] at CN
  have H3 := Lib.hid n3
  have HG := Lib.hid hgw
  clear b1 hge hgw b3 n3
  go_wp2_with fail
  refine CN.mono ?_
  rintro e W3 ⟨rfl, hW3⟩
  clear CN
  rw [← hW3] at H3
  clear hW3
  go_wp2_with fail
  go_loopw [6] (fun i wr => ∃ k : Nat, k ≤ N2 ∧ i = .int .i64 (k : Int) ∧ NW w g (foldT (f.take k) ⟨0, 0, 0⟩) wr) (fun i _ => N2 - (RowKit.intOf i).toNat)
  case atStart => exact ⟨0, by omega, rfl, H3.out⟩
  case round =>
    obtain ⟨k, hk, rfl, hn⟩ := hrel
    by_cases hkn : k < N2
    case pos =>
      have j1 : (k : Int) < (N2 : Int) := by omega
      obtain ⟨t, ht⟩ : ∃ t, f[k]? = some t := ⟨_, List.getElem?_eq_getElem (by have := HH.out.2.2.2.1; omega)⟩
      obtain ⟨b, o, rfl, c0, c1, c2⟩ := tag_at HH.out.2.1 hn.b ht
      by_cases hs : 60 < t.n.size
      · have j2 : (60 : Int) < (t.n.size : Int) := by omega
        have HZ := Lib.hid hn.b
        clear hn hs
        go_wp2_with fail
        go_ret
        exact ⟨rfl, HZ.out⟩
      · have j2 : ¬ (60 : Int) < (t.n.size : Int) := by omega
        have hle := foldT_le (f.take k) (c := ⟨0, 0, 0⟩) (n := 0) ⟨Nat.le_refl _, Nat.le_refl _, Nat.le_refl _⟩
        have hle2 : (f.take k).length ≤ 40 := by have := HK.out.2; rw [List.length_take]; omega
        have C := take_nw t.k t.n t.s (by omega) _ (hle.ok (by omega)) w g HG.out HH.out.2.2.2.2.2 { wr with drawn := wr.drawn + 1 } hn.drew
        rw [← foldT_snoc ht] at C
        obtain ⟨kd, hkd⟩ : ∃ q, t.k = q := ⟨_, rfl⟩
        obtain ⟨nm, hnm⟩ : ∃ q, t.n = q := ⟨_, rfl⟩
        obtain ⟨sg, hsg⟩ : ∃ q, t.s = q := ⟨_, rfl⟩
        rw [hkd] at c0
        rw [hnm] at c1 j2
        rw [hsg] at c2
        simp only [hkd, hnm, hsg] at C
        have g0 : ∀ p : Later (fun _ => False) wr, p.W.cell? ⟨b, o + k * 3, none⟩ = some (.int .i64 kd) := fun p => cell_later c0 (fun hf => hf) p
        have g1 : ∀ p : Later (fun _ => False) wr, p.W.cell? ⟨b, o + k * 3 + 1, none⟩ = some (.string nm) := fun p => cell_later c1 (fun hf => hf) p
        have g2 : ∀ p : Later (fun _ => False) wr, p.W.cell? ⟨b, o + k * 3 + 2, none⟩ = some (.bool sg) := fun p => cell_later c2 (fun hf => hf) p
        have HC := Lib.hid C
        clear hn hs hle hle2 C hkd hnm hsg ht
        go_wp2_with fail
        clear c0 c1 c2
        refine wp_region_mix0 (fun i => if i = 17 then 3 else 0) [0, 1, 2, 3, 4, 5, 6, 7, 8, 9, 10, 11, 12, 13, 14, 15, 16] [17] (fun w' => ∃ p : Later (fun _ => False) wr, w' = p.W) (by kernel_rfl) (by kernel_rfl) ⟨⟨_, Fz.drew wr⟩, rfl⟩ ?_
        simp only [opsAt, List.filterMap_cons, List.filterMap_nil, List.getElem?_toArray, List.getElem?_cons_zero, List.getElem?_cons_succ]
        change wpQuiet _ _ _ _ [_, _, _, _, _, _, _, _, _, _, _, _, _, _, _, _, _] _
        repeat (go_big_quiet_step (fail))
        refine wpQuiet_nil ?_
        clear g0 g1 g2
        refine wpSeqM_step rfl ?_
        go_wp2_with fail
        refine HC.out.mono ?_
        rintro e w4 ⟨rfl, hn4⟩
        have hend : ∃ j : Nat, j ≤ N2 ∧ Value.int .i64 ((k : Int) + 1) = .int .i64 (j : Int) ∧ NW w g (foldT (f.take j) ⟨0, 0, 0⟩) w4 := ⟨k + 1, by omega, by simp, hn4⟩
        have HEND := Lib.hid hend
        clear hn4 hend
        go_wp2_with fail
        unfold wpSeqM
        go_wp2_with fail
        go_roundw
        case rel => exact HEND.out
        case measure => simp [RowKit.intOf]; omega
    case neg =>
      obtain rfl : k = N2 := by omega
      have j1 : ¬ (k : Int) < (k : Int) := by omega
      have ht : f.take k = f := by rw [← HH.out.2.2.2.1]; exact List.take_length
      rw [ht] at hn
      have hle := foldT_le f (c := ⟨0, 0, 0⟩) (n := 0) ⟨Nat.le_refl _, Nat.le_refl _, Nat.le_refl _⟩
      have hle40 : (foldT f ⟨0, 0, 0⟩).le 40 := by
        have h1 := HH.out.2.2.2.1
        have h2 := HK.out.2
        exact ⟨by have := hle.1; omega, by have := hle.2.1; omega, by have := hle.2.2; omega⟩
      obtain ⟨c, hce⟩ : ∃ c, foldT f ⟨0, 0, 0⟩ = c := ⟨_, rfl⟩
      rw [hce] at hn hle40
      have CP := pre_any _ _ _ hn.n
      have CB := nob_any _ _ _ hn.n
      have CH := hid_any _ _ _ hn.n
      obtain ⟨ch, hch⟩ : ∃ q, c.h = q := ⟨_, rfl⟩
      obtain ⟨cp, hcp⟩ : ∃ q, c.p = q := ⟨_, rfl⟩
      obtain ⟨cn, hcn'⟩ : ∃ q, c.n = q := ⟨_, rfl⟩
      rw [hch] at CH
      rw [hcp] at CP
      rw [hcn'] at CB
      have H4 := Lib.hid (And.intro hn (And.intro hle40 (And.intro hch (And.intro hcp hcn'))))
      clear hn ht hle hle40 hce hch hcp hcn' hkn hk
      go_wp2_with fail
      refine CH.mono ?_
      rintro e _ ⟨rfl, rfl⟩
      clear CH
      go_wp2_with fail
      refine CP.mono ?_
      rintro e _ ⟨rfl, rfl⟩
      clear CP
      go_wp2_with fail
      refine CB.mono ?_
      rintro e w5 ⟨rfl, rfl⟩
      clear CB
      go_wp2_with fail
      go_loopw [10] (fun i wr => ∃ k : Nat, k ≤ N1 ∧ i = .int .i64 (k : Int) ∧ NW w g (upT (l.take k) c) wr ∧ Small l k) (fun i _ => N1 - (RowKit.intOf i).toNat)
      case atStart => exact ⟨0, by omega, rfl, H4.out.1, fun i t h => absurd h (by omega)⟩
      case round =>
        obtain ⟨m, hm, rfl, hn, hsm⟩ := hrel
        by_cases hkn : m < N1
        case pos =>
          have j3 : (m : Int) < (N1 : Int) := by omega
          obtain ⟨t, ht⟩ : ∃ t, l[m]? = some t := ⟨_, List.getElem?_eq_getElem (by have := HH.out.2.2.1; omega)⟩
          obtain ⟨b, o, rfl, _, c1, _⟩ := tag_at HH.out.1 hn.b ht
          by_cases hs : 60 < t.n.size
          · have j2 : (60 : Int) < (t.n.size : Int) := by omega
            have HZ := Lib.hid hn.b
            clear hn hs hsm
            go_wp2_with fail
            go_ret
            exact ⟨rfl, HZ.out⟩
          · have j2 : ¬ (60 : Int) < (t.n.size : Int) := by omega
            have hle := upT_le (l.take m) H4.out.2.1
            have hle2 : (l.take m).length ≤ 40 := by have := HK.out.1; rw [List.length_take]; omega
            have C := take_nw 2 t.n false (by omega) _ (hle.ok (by omega)) w g HG.out HH.out.2.2.2.2.2 wr hn
            rw [← upT_snoc ht] at C
            obtain ⟨nm, hnm⟩ : ∃ q, t.n = q := ⟨_, rfl⟩
            rw [hnm] at c1 j2
            simp only [hnm] at C
            have HC := Lib.hid C
            have HSM := Lib.hid (hsm.next ht (by omega))
            clear hn hs hle hle2 C hnm ht hsm
            go_wp2_with fail
            refine HC.out.mono ?_
            rintro e w6 ⟨rfl, hn6⟩
            have hend : ∃ j : Nat, j ≤ N1 ∧ Value.int .i64 ((m : Int) + 1) = .int .i64 (j : Int) ∧ NW w g (upT (l.take j) c) w6 ∧ Small l j := ⟨m + 1, by omega, by simp, hn6, HSM.out⟩
            have HEND := Lib.hid hend
            clear hn6 hend
            go_wp2_with fail
            go_roundw
            case rel => exact HEND.out
            case measure => simp [RowKit.intOf]; omega
        case neg =>
          obtain rfl : m = N1 := by omega
          have j3 : ¬ (m : Int) < (m : Int) := by omega
          have H5 := Lib.hid hn
          have HSM := Lib.hid hsm
          clear hn hkn hm hsm
          go_wp2_with fail
          go_loopw [11] (fun i wr => ∃ (j : Nat) (z : Int), j ≤ m ∧ z = (j : Int) - 1 ∧ i = .int .i64 z ∧ NW w g (upT (l.take j) c) wr) (fun i _ => (RowKit.intOf i + 1).toNat)
          case atStart => exact ⟨m, (m : Int) - 1, Nat.le_refl _, rfl, rfl, H5.out⟩
          case round =>
            obtain ⟨j, z, hj, hz, rfl, hn⟩ := hrel
            cases j with
            | zero =>
              obtain rfl : z = -1 := by omega
              have hn' : NW w g c wr := hn
              have CP := pre_any _ _ _ hn'.n
              have CB := nob_any _ _ _ hn'.n
              have CH := hid_any _ _ _ hn'.n
              rw [H4.out.2.2.1] at CH
              rw [H4.out.2.2.2.1] at CP
              rw [H4.out.2.2.2.2] at CB
              have HZ := Lib.hid hn'.b
              clear hn hn' hz
              go_wp2_with fail
              refine CH.mono ?_
              rintro e _ ⟨rfl, rfl⟩
              clear CH
              go_wp2_with fail
              refine CP.mono ?_
              rintro e _ ⟨rfl, rfl⟩
              clear CP
              go_wp2_with fail
              refine CB.mono ?_
              rintro e w7 ⟨rfl, rfl⟩
              clear CB
              go_wp2_with fail
              go_ret
              exact ⟨rfl, HZ.out⟩
            | succ j =>
              obtain rfl : z = (j : Int) := by omega
              have j4 : (0 : Int) ≤ (j : Int) := by omega
              have j5 : (j : Int) < (m : Int) := by omega
              obtain ⟨t, ht⟩ : ∃ t, l[j]? = some t := ⟨_, List.getElem?_eq_getElem (by have := HH.out.2.2.1; omega)⟩
              obtain ⟨b, o, rfl, _, c1, _⟩ := tag_at HH.out.1 hn.b ht
              have hle := upT_le (l.take (j + 1)) H4.out.2.1
              have hle2 : (l.take (j + 1)).length ≤ 40 := by have := HK.out.1; rw [List.length_take]; omega
              have hs := HSM.out j t (by omega) ht
              have C := take_nw 3 t.n false hs _ (hle.ok (by omega)) w g HG.out HH.out.2.2.2.2.2 wr hn
              rw [upT_back ht H4.out.2.1 (by have := HK.out.1; have := HH.out.2.2.1; omega)] at C
              obtain ⟨nm, hnm⟩ : ∃ q, t.n = q := ⟨_, rfl⟩
              rw [hnm] at c1
              simp only [hnm] at C
              have HC := Lib.hid C
              clear hn hs hle hle2 C hnm ht hz
              go_wp2_with fail
              refine HC.out.mono ?_
              rintro e w6 ⟨rfl, hn6⟩
              have hend : ∃ (q : Nat) (z : Int), q ≤ m ∧ z = (q : Int) - 1 ∧ Value.int .i64 ((j : Int) - 1) = .int .i64 z ∧ NW w g (upT (l.take q) c) w6 := ⟨j, (j : Int) - 1, by omega, rfl, rfl, hn6⟩
              have HEND := Lib.hid hend
              clear hn6 hend
              go_wp2_with fail
              go_roundw
              case rel => exact HEND.out
              case measure => simp [RowKit.intOf]
end Go.Proofs.Ytojinnnpfjhifaa
