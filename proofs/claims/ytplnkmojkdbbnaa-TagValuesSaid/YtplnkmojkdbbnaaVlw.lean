/-
  TagValues: the walk of the law.
-/
import Derived.Test.YtplnkmojkdbbnaaVlc
import Derived.Test.YtplnkmojkdbbnaaRdw
namespace Go.Proofs.Ytplnkmojkdbbnaa
open Go.RowKit Go.Shelf Go.Lib Go.Maps Go.Sort

theorem str_of (S : ByteArray) : ∃ l : List Nat, (∀ x ∈ l, x < 256) ∧ l.length = S.size ∧ ⟨(u8s l).toArray⟩ = S := by
  obtain ⟨⟨d⟩⟩ := S
  exact ⟨nats d, nats_lt d, by rw [nats_len]; rfl, by rw [u8s_nats]⟩
/-- The value and whether there is one, of the attributes from place k on. -/
theorem valS_cons {l : List AT} {k : Nat} {x : AT} {S : ByteArray} (hx : l[k]? = some x) :
    (isNm S x = true → valS (l.drop k) S = strS x.2 ∧ ((l.drop k).find? (isNm S)).isSome = true) ∧
    (isNm S x = false → valS (l.drop k) S = valS (l.drop (k + 1)) S ∧ ((l.drop k).find? (isNm S)).isSome = ((l.drop (k + 1)).find? (isNm S)).isSome) := by
  obtain ⟨hk, e⟩ := List.getElem?_eq_some_iff.1 hx
  have hd : l.drop k = x :: l.drop (k + 1) := by rw [List.drop_eq_getElem_cons hk, e]
  rw [hd]
  unfold valS
  constructor <;> intro h <;> simp [h]
set_option maxHeartbeats 8000000 in
set_option maxRecDepth 100000 in
theorem valuesLaw_any (xs : List Nat) (A : Option Addr) (cap : Nat) (S1 S2 : ByteArray) (w : World) (hm : MX w) (h : BY w w.heap.size xs A cap) :
    Calls Try.prog 6 #[.slice A xs.length cap, .string S1, .string S2] w fun r w' => r = .returned (.bool true) ∧ Below w.heap.size w w' := by
  have hlen := h.len
  have hAw := awake_any w hm
  by_cases hl : 200 < xs.length
  · generalize xs.length = N at *
    have i1 : (200 : Int) < (N : Int) := by omega
    have HA := Lib.hid hAw
    clear h hl hAw hm
    go_enter Try.func6, Try.ntmps6
    go_wp2_with fail
    refine HA.out.mono ?_
    rintro r w1 ⟨rfl, hb1⟩
    have HB := Lib.hid hb1
    clear hb1
    go_wp2_with fail
    go_ret
    exact ⟨rfl, HB.out⟩
  by_cases hs1 : 60 < S1.size
  · generalize xs.length = N at *
    have i1 : ¬ (200 : Int) < (N : Int) := by omega
    have i2 : (60 : Int) < (S1.size : Int) := by omega
    have HA := Lib.hid hAw
    clear h hl hs1 hAw hm
    go_enter Try.func6, Try.ntmps6
    go_wp2_with fail
    refine HA.out.mono ?_
    rintro r w1 ⟨rfl, hb1⟩
    have HB := Lib.hid hb1
    clear hb1
    go_wp2_with fail
    go_ret
    exact ⟨rfl, HB.out⟩
  by_cases hs2 : 60 < S2.size
  · generalize xs.length = N at *
    have i1 : ¬ (200 : Int) < (N : Int) := by omega
    have i2 : ¬ (60 : Int) < (S1.size : Int) := by omega
    have i3 : (60 : Int) < (S2.size : Int) := by omega
    have HA := Lib.hid hAw
    clear h hl hs1 hs2 hAw hm
    go_enter Try.func6, Try.ntmps6
    go_wp2_with fail
    refine HA.out.mono ?_
    rintro r w1 ⟨rfl, hb1⟩
    have HB := Lib.hid hb1
    clear hb1
    go_wp2_with fail
    go_ret
    exact ⟨rfl, HB.out⟩
  have K1 := fun W (hb : Below w.heap.size w W) => readV_any xs A cap 0 W (hm.on hm.pos hb) (h.on hb) (by omega)
  have K2 := fun W (hb : Below w.heap.size w W) => refReadV_any xs A cap 0 W (h.on hb) (by omega)
  rw [rdAt_zero] at K1 K2
  generalize rdT xs = O at *
  unfold RdV at K1 K2
  obtain ⟨T, hT⟩ : ∃ T, O.getD tg0 = T := ⟨_, rfl⟩
  obtain ⟨ok, hok⟩ : ∃ b, O.isSome = b := ⟨_, rfl⟩
  rw [hT, hok] at K1 K2
  have K3 := fun W A1 c1 h1 => value14_any T S1 A1 c1 W h1
  unfold tagV strV at K3
  obtain ⟨L, hL⟩ : ∃ L, T.attrs = L := ⟨_, rfl⟩
  rw [hL] at K1 K2 K3
  obtain ⟨TL, hTL⟩ : ∃ n, L.length = n := ⟨_, rfl⟩
  obtain ⟨NB, hNB⟩ : ∃ S : ByteArray, ⟨(u8s T.name).toArray⟩ = S := ⟨_, rfl⟩
  rw [hTL, hNB] at K1 K2 K3
  obtain ⟨VV, hVV⟩ : ∃ S, valS L S1 = S := ⟨_, rfl⟩
  obtain ⟨is, his⟩ : ∃ b, (L.find? (isNm S1)).isSome = b := ⟨_, rfl⟩
  rw [hVV, his] at K3
  obtain ⟨l2, h256, hl2, e2⟩ := str_of S2
  have K5 := fun W => lower_any l2 h256 (by omega) W
  have K6 := fun W => refLower_any l2 h256 (by omega) W
  unfold strV at K5 K6
  rw [e2] at K5 K6
  obtain ⟨LB, hLB⟩ : ∃ S : ByteArray, ⟨(u8s (lowL l2)).toArray⟩ = S := ⟨_, rfl⟩
  rw [hLB] at K5 K6
  have i1 : ¬ (200 : Int) < (xs.length : Int) := by omega
  have i2 : ¬ (60 : Int) < (S1.size : Int) := by omega
  have i3 : ¬ (60 : Int) < (S2.size : Int) := by omega
  generalize xs.length = N at *
  have hv : (VV.toList == VV.toList) = true := by simp
  have hlb : (LB.toList == LB.toList) = true := by simp
  have hiss : (is == is) = true := by simp
  have HA := Lib.hid (And.intro hAw (And.intro K1 (And.intro K2 (And.intro K3 (And.intro K5 K6)))))
  have HL := Lib.hid (And.intro hTL (And.intro hVV his))
  clear h hl hm K1 K2 K3 K5 K6 hT hok hAw hTL hNB hVV his hLB e2 hl2 h256 hs1 hs2 hL
  generalize (T.kind : Int) = k1 at *
  generalize (T.size : Int) = k2 at *
  generalize T.single = k3 at *
  generalize T.closed = k4 at *
  go_enter Try.func6, Try.ntmps6
  go_wp2_with fail
  refine HA.out.1.mono ?_
  rintro r w1 ⟨rfl, hb1⟩
  have HB1 := Lib.hid hb1
  clear hb1
  go_wp2_with fail
  refine (HA.out.2.1 _ HB1.out).mono ?_
  rintro r w2 ⟨A1, c1, rfl, ha1, hb2⟩
  have HB2 := Lib.hid (And.intro (HB1.out.trans (hb2.mono HB1.out.size)) ha1)
  clear hb2 ha1
  obtain ⟨W3, hW3⟩ : ∃ W, w2.alloc (.cells #[.int .i64 k1, .int .i64 k2, .string NB, .slice A1 TL c1, .bool k3, .bool k4] 26) = W := ⟨_, rfl⟩
  have x1 : Cells W3 w2.heap.size 26 #[.int .i64 k1, .int .i64 k2, .string NB, .slice A1 TL c1, .bool k3, .bool k4] := by rw [← hW3]; exact cells_new _ _ _
  have b3 : Below w.heap.size w W3 := by rw [← hW3]; exact below_lit HB2.out.1 _
  have a3 : AS W3 W3.heap.size L A1 c1 := by rw [← hW3]; exact HB2.out.2.on (below_new _ _)
  have H3 := Lib.hid (And.intro x1 (And.intro b3 a3))
  clear x1 b3 a3
  go_wp2_with fail
  refine (HA.out.2.2.1 _ H3.out.2.1).mono ?_
  rintro r w4 ⟨A2, c2, rfl, ha2, hb4⟩
  clear hW3
  have b4 : Below w.heap.size w w4 := H3.out.2.1.trans (hb4.mono H3.out.2.1.size)
  obtain ⟨W5, hW5⟩ : ∃ W, w4.alloc (.cells #[.int .i64 k1, .int .i64 k2, .string NB, .slice A2 TL c2, .bool k3, .bool k4] 31) = W := ⟨_, rfl⟩
  have x2 : Cells W5 w4.heap.size 31 #[.int .i64 k1, .int .i64 k2, .string NB, .slice A2 TL c2, .bool k3, .bool k4] := by rw [← hW5]; exact cells_new _ _ _
  have b45 : Below w4.heap.size w4 W5 := by rw [← hW5]; exact below_new _ _
  have x1 : Cells W5 w2.heap.size 26 #[.int .i64 k1, .int .i64 k2, .string NB, .slice A1 TL c1, .bool k3, .bool k4] := (H3.out.1.on hb4).on b45
  have a1 := (H3.out.2.2.on hb4).on b45
  have a2 := ha2.on b45
  have C := HA.out.2.2.2.1 W5 A1 c1 a1
  have p0 := x1.cell 0
  have p1 := x1.cell 1
  have p2 := x1.cell 2
  have p3 := x1.cell 3
  have p4 := x1.cell 4
  have p5 := x1.cell 5
  simp at p0 p1 p2 p3 p4 p5
  have H5 := Lib.hid (And.intro C (And.intro (b4.trans (b45.mono b4.size)) (And.intro x2 a2)))
  clear C x1 x2 a1 a2 ha2 hb4 b4 b45
  go_wp2_with fail
  refine H5.out.1.mono ?_
  rintro r w6 ⟨rfl, hb6⟩
  have x6 := H5.out.2.2.1.on hb6
  have a6 := H5.out.2.2.2.on hb6
  have q3 := x6.cell 3
  simp at q3
  have htl : TL ≤ 9223372036854775807 := by have := a6.le; have := a6.mx; unfold maxLen at this; have := HL.out.1; omega
  have htc : TL ≤ c2 := by have := a6.le; have := HL.out.1; omega
  have hcx : c2 ≤ 9223372036854775807 := by have := a6.mx; unfold maxLen at this; omega
  have e1 : IntKind.i64.wrap ((TL : Int) - 1) = (TL : Int) - 1 := IntWalk.i64_in _ (by omega)
  have H6 := Lib.hid (And.intro (H5.out.2.1.trans (hb6.mono H5.out.2.1.size)) a6)
  clear hb6 hW5 p0 p1 p2 p3 p4 p5 x6 a6
  go_wp2_with fail
  go_loopw [13, 14, 15] (fun f b i wr => ∃ k : Nat, f = .string (valS (L.drop k) S1) ∧ b = .bool ((L.drop k).find? (isNm S1)).isSome ∧ i = .int .i64 ((k : Int) - 1) ∧ k ≤ TL ∧ wr = w6) (fun _ _ i _ => (RowKit.intOf i + 1).toNat)
  case atStart =>
    refine ⟨TL, ?_, ?_, rfl, Nat.le_refl _, rfl⟩
    · rw [List.drop_of_length_le (by rw [HL.out.1]; exact Nat.le_refl _)]; rfl
    · rw [List.drop_of_length_le (by rw [HL.out.1]; exact Nat.le_refl _)]; rfl
  case round =>
    obtain ⟨k, rfl, rfl, rfl, hk, ew⟩ := hrel
    obtain rfl := ew.symm
    clear ew
    cases k with
    | zero =>
      have hz : valS (L.drop 0) S1 = VV ∧ ((L.drop 0).find? (isNm S1)).isSome = is := ⟨HL.out.2.1, HL.out.2.2⟩
      rw [hz.1, hz.2]
      have ez : ((0 : Nat) : Int) - 1 = -1 := rfl
      rw [ez]
      clear hz ez hk
      go_wp2_with fail
      refine (HA.out.2.2.2.2.1 _).mono ?_
      rintro r w7 ⟨rfl, hb7⟩
      have HB7 := Lib.hid (H6.out.1.trans (hb7.mono H6.out.1.size))
      clear hb7 q3
      go_wp2_with fail
      refine (HA.out.2.2.2.2.2 _).mono ?_
      rintro r w8 ⟨rfl, hb8⟩
      have HB8 := Lib.hid (HB7.out.trans (hb8.mono HB7.out.size))
      clear hb8
      go_wp2_with fail
      go_ret
      exact ⟨by first | rfl | simp, HB8.out⟩
    | succ m =>
      have em : ((m + 1 : Nat) : Int) - 1 = (m : Int) := by omega
      rw [em]
      have i4 : (m : Int) < (TL : Int) := by omega
      obtain ⟨x, hx⟩ := at_lt (l := L) (k := m) (by rw [HL.out.1]; omega)
      obtain ⟨b, o, rfl, hbl, f0, f1⟩ := H6.out.2.r m x hx
      rw [← Nat.add_assoc] at f1
      have d0 : w6.cell? ⟨b, o + m * 2, none⟩ = some (.string (strS x.1)) := f0
      have d1 : w6.cell? ⟨b, o + m * 2 + 1, none⟩ = some (.string (strS x.2)) := f1
      clear f0 f1
      have hvc := valS_cons (S := S1) hx
      have e2 : IntKind.i64.wrap ((m : Int) - 1) = (m : Int) - 1 := IntWalk.i64_in _ (by omega)
      cases hp : isNm S1 x with
      | true =>
        have hq := hvc.1 hp
        have hp : ((strS x.1).toList == S1.toList) = true := hp
        have HQ := Lib.hid hq
        clear hvc hq hx hbl
        generalize strS x.1 = X1 at d0 hp
        generalize strS x.2 = X2 at d1 HQ
        go_wp2_with fail
        go_roundw
        case rel => exact ⟨m, by rw [HQ.out.1], by rw [HQ.out.2], rfl, by omega, trivial⟩
        case measure => simp [RowKit.intOf]; try omega
      | false =>
        have hq := hvc.2 hp
        have hp : ((strS x.1).toList == S1.toList) = false := hp
        have HQ := Lib.hid hq
        clear hvc hq hx hbl
        generalize strS x.1 = X1 at d0 hp
        generalize strS x.2 = X2 at d1 HQ
        go_wp2_with fail
        go_roundw
        case rel => exact ⟨m, by rw [HQ.out.1], by rw [HQ.out.2], rfl, by omega, trivial⟩
        case measure => simp [RowKit.intOf]; try omega
end Go.Proofs.Ytplnkmojkdbbnaa
