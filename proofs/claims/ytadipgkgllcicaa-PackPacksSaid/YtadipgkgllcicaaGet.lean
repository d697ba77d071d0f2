/-
  Contracts: (Packed).get; the document's Get.
-/
import Derived.Test.YtadipgkgllcicaaRtt
namespace Go.Proofs.Ytadipgkgllcicaa
open Go.RowKit Go.Shelf Go.Lib Go.Maps

def getR (p : Pk) (i c : Nat) : Int :=
  if p.cs[(p.bs.getD i 0).toNat + c]? = some (i : Int) then p.ns.getD ((p.bs.getD i 0).toNat + c) 0 else p.us.getD i 0
structure OkP (p : Pk) : Prop where
  w1 : 1 ≤ p.w
  w2 : p.w ≤ 64
  l : p.us.length ≤ 1000
  lb : p.bs.length = p.us.length
  lc : p.cs.length ≤ 65599
  ln : p.ns.length = p.cs.length
  u : ∀ x ∈ p.us, 0 ≤ x ∧ x ≤ 65535
  b : ∀ x ∈ p.bs, 0 ≤ x ∧ x ≤ 65535
  n : ∀ x ∈ p.ns, 0 ≤ x ∧ x ≤ 65535
  c : ∀ x ∈ p.cs, -1 ≤ x ∧ x ≤ (p.us.length : Int) - 1
theorem okPk_iff {p : Pk} : okPk p = true ↔ OkP p := by
  unfold okPk widthB
  simp only [Bool.and_eq_true, decide_eq_true_eq, inB_iff]
  constructor
  · rintro ⟨⟨h1, h2⟩, h3, h4, h5, h6, h7, h8, h9, h10⟩
    exact ⟨h1, h2, h3, h4, h5, h6, h7, h8, h9, h10⟩
  · intro h
    exact ⟨⟨h.w1, h.w2⟩, h.l, h.lb, h.lc, h.ln, h.u, h.b, h.n, h.c⟩
theorem IS.at {w : World} {B : Nat} {xs : List Int} {A : Option Addr} {cap i : Nat} {x : Int} (h : IS w B xs A cap) (hx : xs[i]? = some x) : ∃ b o, A = some ⟨b, o, none⟩ ∧ b < B ∧ w.cell? ⟨b, o + i, none⟩ = some (.int .i64 x) := by
  obtain ⟨b, o, e, hb, hc⟩ := h.r (by rintro rfl; simp at hx)
  exact ⟨b, o, e, hb, hc i x hx⟩
theorem list_at {xs : List Int} {i : Nat} (h : i < xs.length) : ∃ x, xs[i]? = some x := ⟨xs[i], List.getElem?_eq_getElem h⟩
set_option maxHeartbeats 4000000 in
set_option maxRecDepth 100000 in
theorem get28_any {p : Pk} {v : Value} {w : World} (h : PkV w p v) (ok : OkP p) (i c : Nat) (hi : i < p.us.length) (hc : c < 64) :
    Calls Try.prog 28 #[v, .int .i64 (i : Int), .int .i64 (c : Int)] w fun r w' => r = .returned (.int .i64 (getR p i c)) ∧ Below w.heap.size w w' := by
  obtain ⟨hp, A1, c1, A2, c2, A3, c3, A4, c4, rfl, i1, i2, i3, i4⟩ := h
  have hl := ok.l
  obtain ⟨x, hx⟩ := list_at (xs := p.bs) (i := i) (by rw [ok.lb]; exact hi)
  obtain ⟨u, hu⟩ := list_at (xs := p.us) (i := i) hi
  have bx := ok.b x (List.mem_of_getElem? hx)
  obtain ⟨a, rfl⟩ := Int.eq_ofNat_of_zero_le bx.1
  obtain ⟨R, hR⟩ : ∃ R, getR p i c = R := ⟨_, rfl⟩
  have hR2 := hR
  unfold getR at hR2
  rw [show p.bs.getD i 0 = (a : Int) by simp [List.getD_eq_getElem?_getD, hx], show p.us.getD i 0 = u by simp [List.getD_eq_getElem?_getD, hu], Int.toNat_natCast] at hR2
  rw [hR]
  clear hR
  have hlc := ok.lc
  have hln := ok.ln
  have hlb := ok.lb
  clear ok
  obtain ⟨px, us, bs, cs, ns⟩ := p
  dsimp only at *
  obtain ⟨W0, hW0⟩ : ∃ W, w.alloc (.cells #[.int .i64 px, .slice A1 us.length c1, .slice A2 bs.length c2, .slice A3 cs.length c3, .slice A4 ns.length c4] 27) = W := ⟨_, rfl⟩
  have b0 : Below w.heap.size w W0 := by rw [← hW0]; exact below_new w _
  have x0 : Cells W0 w.heap.size 27 #[.int .i64 px, .slice A1 us.length c1, .slice A2 bs.length c2, .slice A3 cs.length c3, .slice A4 ns.length c4] := by rw [← hW0]; exact cells_new _ _ _
  have e1 := x0.cell 1
  have e2 := x0.cell 2
  have e3 := x0.cell 3
  have e4 := x0.cell 4
  simp at e1 e2 e3 e4
  obtain ⟨B1, O1, rfl, _, d1⟩ := (i1.on b0).at hu
  obtain ⟨B2, O2, rfl, _, d2⟩ := (i2.on b0).at hx
  have m1 := i1.l
  have m2 := i2.l
  have k1 := i1.m
  have k2 := i2.m
  obtain ⟨k, hk⟩ : ∃ k : Nat, a + c = k := ⟨_, rfl⟩
  have hs : (a : Int) + (c : Int) = (k : Int) := by omega
  rw [hk] at hR2
  obtain ⟨n1, hn1⟩ : ∃ n, us.length = n := ⟨_, rfl⟩
  obtain ⟨n2, hn2⟩ : ∃ n, bs.length = n := ⟨_, rfl⟩
  obtain ⟨n3, hn3⟩ : ∃ n, cs.length = n := ⟨_, rfl⟩
  obtain ⟨n4, hn4⟩ : ∃ n, ns.length = n := ⟨_, rfl⟩
  have hix : (i : Int) < (n1 : Int) := by omega
  have hix2 : (i : Int) < (n2 : Int) := by omega
  rw [hn1] at e1 m1
  rw [hn2] at e2 m2
  rw [hn3] at e3
  rw [hn4] at e4
  rw [hn1, hn2, hn3, hn4] at hW0
  rw [hn1, hn2, hn3, hn4]
  by_cases hlt : k < n3
  · obtain ⟨y, hy⟩ := list_at (xs := cs) (i := k) (by omega)
    obtain ⟨z, hz⟩ := list_at (xs := ns) (i := k) (by omega)
    obtain ⟨B3, O3, rfl, _, d3⟩ := (i3.on b0).at hy
    obtain ⟨B4, O4, rfl, _, d4⟩ := (i4.on b0).at hz
    have m3 := i3.l
    have m4 := i4.l
    rw [hn3] at m3
    rw [hn4] at m4
    have g1 : (k : Int) < (n3 : Int) := by omega
    have g2 : (k : Int) < (n4 : Int) := by omega
    by_cases he : y = (i : Int)
    · subst he
      obtain rfl : R = z := by
        rw [← hR2, if_pos hy]
        simp [List.getD_eq_getElem?_getD, hz]
      rw [← hW0] at d1 d2 d3 d4 b0
      have H := Lib.hid b0
      clear e1 e2 e3 e4 hW0 b0 x0 i1 i2 i3 i4 hR2 hx hu hy hz hn1 hn2 hn3 hn4 hln hlb hlc hl m1 m2 m3 m4 k1 k2 hk hi hlt
      go_enter Try.func28, Try.ntmps28
      go_wp2_with fail
      go_ret
      exact ⟨rfl, H.out⟩
    · obtain rfl : R = u := by
        rw [← hR2, if_neg (by rw [hy]; simpa using he)]
      have hq : (y == (i : Int)) = false := by simpa using he
      rw [← hW0] at d1 d2 d3 d4 b0
      have H := Lib.hid b0
      clear e1 e2 e3 e4 hW0 b0 x0 i1 i2 i3 i4 hR2 hx hu hy hz hn1 hn2 hn3 hn4 hln hlb hlc hl m1 m2 m3 m4 k1 k2 hk hi hlt he
      go_enter Try.func28, Try.ntmps28
      go_wp2_with fail
      go_ret
      exact ⟨rfl, H.out⟩
  · obtain rfl : R = u := by
      rw [← hR2, if_neg (by rw [List.getElem?_eq_none (by omega)]; simp)]
    have g1 : ¬ (k : Int) < (n3 : Int) := by omega
    rw [← hW0] at d1 d2 b0
    have H := Lib.hid b0
    clear e1 e2 e3 e4 hW0 b0 x0 i1 i2 i3 i4 hR2 hx hu hn1 hn2 hn3 hn4 hln hlb hlc hl m1 m2 k1 k2 hk hi hlt
    go_enter Try.func28, Try.ntmps28
    go_wp2_with fail
    go_ret
    exact ⟨rfl, H.out⟩
set_option maxHeartbeats 4000000 in
set_option maxRecDepth 100000 in
theorem refGet_any {p : Pk} {v : Value} {w : World} (h : PkV w p v) (ok : OkP p) (i c : Nat) (hi : i < p.us.length) (hc : c < 64) :
    Calls Try.prog 22 #[v, .int .i64 (i : Int), .int .i64 (c : Int)] w fun r w' => r = .returned (.int .i64 (getR p i c)) ∧ Below w.heap.size w w' := by
  obtain ⟨hp, A1, c1, A2, c2, A3, c3, A4, c4, rfl, i1, i2, i3, i4⟩ := h
  have hl := ok.l
  obtain ⟨x, hx⟩ := list_at (xs := p.bs) (i := i) (by rw [ok.lb]; exact hi)
  obtain ⟨u, hu⟩ := list_at (xs := p.us) (i := i) hi
  have bx := ok.b x (List.mem_of_getElem? hx)
  obtain ⟨a, rfl⟩ := Int.eq_ofNat_of_zero_le bx.1
  obtain ⟨R, hR⟩ : ∃ R, getR p i c = R := ⟨_, rfl⟩
  have hR2 := hR
  unfold getR at hR2
  rw [show p.bs.getD i 0 = (a : Int) by simp [List.getD_eq_getElem?_getD, hx], show p.us.getD i 0 = u by simp [List.getD_eq_getElem?_getD, hu], Int.toNat_natCast] at hR2
  rw [hR]
  clear hR
  have hlc := ok.lc
  have hln := ok.ln
  have hlb := ok.lb
  clear ok
  obtain ⟨px, us, bs, cs, ns⟩ := p
  dsimp only at *
  obtain ⟨W0, hW0⟩ : ∃ W, w.alloc (.cells #[.int .i64 px, .slice A1 us.length c1, .slice A2 bs.length c2, .slice A3 cs.length c3, .slice A4 ns.length c4] 34) = W := ⟨_, rfl⟩
  have b0 : Below w.heap.size w W0 := by rw [← hW0]; exact below_new w _
  have x0 : Cells W0 w.heap.size 34 #[.int .i64 px, .slice A1 us.length c1, .slice A2 bs.length c2, .slice A3 cs.length c3, .slice A4 ns.length c4] := by rw [← hW0]; exact cells_new _ _ _
  have e1 := x0.cell 1
  have e2 := x0.cell 2
  have e3 := x0.cell 3
  have e4 := x0.cell 4
  simp at e1 e2 e3 e4
  obtain ⟨B1, O1, rfl, _, d1⟩ := (i1.on b0).at hu
  obtain ⟨B2, O2, rfl, _, d2⟩ := (i2.on b0).at hx
  have m1 := i1.l
  have m2 := i2.l
  have k1 := i1.m
  have k2 := i2.m
  obtain ⟨k, hk⟩ : ∃ k : Nat, a + c = k := ⟨_, rfl⟩
  have hs : (a : Int) + (c : Int) = (k : Int) := by omega
  rw [hk] at hR2
  obtain ⟨n1, hn1⟩ : ∃ n, us.length = n := ⟨_, rfl⟩
  obtain ⟨n2, hn2⟩ : ∃ n, bs.length = n := ⟨_, rfl⟩
  obtain ⟨n3, hn3⟩ : ∃ n, cs.length = n := ⟨_, rfl⟩
  obtain ⟨n4, hn4⟩ : ∃ n, ns.length = n := ⟨_, rfl⟩
  have hix : (i : Int) < (n1 : Int) := by omega
  have hix2 : (i : Int) < (n2 : Int) := by omega
  rw [hn1] at e1 m1
  rw [hn2] at e2 m2
  rw [hn3] at e3
  rw [hn4] at e4
  rw [hn1, hn2, hn3, hn4] at hW0
  rw [hn1, hn2, hn3, hn4]
  by_cases hlt : k < n3
  · obtain ⟨y, hy⟩ := list_at (xs := cs) (i := k) (by omega)
    obtain ⟨z, hz⟩ := list_at (xs := ns) (i := k) (by omega)
    obtain ⟨B3, O3, rfl, _, d3⟩ := (i3.on b0).at hy
    obtain ⟨B4, O4, rfl, _, d4⟩ := (i4.on b0).at hz
    have m3 := i3.l
    have m4 := i4.l
    rw [hn3] at m3
    rw [hn4] at m4
    have g1 : (k : Int) < (n3 : Int) := by omega
    have g2 : (k : Int) < (n4 : Int) := by omega
    by_cases he : y = (i : Int)
    · subst he
      obtain rfl : R = z := by
        rw [← hR2, if_pos hy]
        simp [List.getD_eq_getElem?_getD, hz]
      rw [← hW0] at d1 d2 d3 d4 b0
      have H := Lib.hid b0
      clear e1 e2 e3 e4 hW0 b0 x0 i1 i2 i3 i4 hR2 hx hu hy hz hn1 hn2 hn3 hn4 hln hlb hlc hl m1 m2 m3 m4 k1 k2 hk hi hlt
      go_enter Try.func22, Try.ntmps22
      go_wp2_with fail
      go_ret
      exact ⟨rfl, H.out⟩
    · obtain rfl : R = u := by
        rw [← hR2, if_neg (by rw [hy]; simpa using he)]
      have hq : (y == (i : Int)) = false := by simpa using he
      rw [← hW0] at d1 d2 d3 d4 b0
      have H := Lib.hid b0
      clear e1 e2 e3 e4 hW0 b0 x0 i1 i2 i3 i4 hR2 hx hu hy hz hn1 hn2 hn3 hn4 hln hlb hlc hl m1 m2 m3 m4 k1 k2 hk hi hlt he
      go_enter Try.func22, Try.ntmps22
      go_wp2_with fail
      go_ret
      exact ⟨rfl, H.out⟩
  · obtain rfl : R = u := by
      rw [← hR2, if_neg (by rw [List.getElem?_eq_none (by omega)]; simp)]
    have g1 : ¬ (k : Int) < (n3 : Int) := by omega
    rw [← hW0] at d1 d2 b0
    have H := Lib.hid b0
    clear e1 e2 e3 e4 hW0 b0 x0 i1 i2 i3 i4 hR2 hx hu hn1 hn2 hn3 hn4 hln hlb hlc hl m1 m2 k1 k2 hk hi hlt
    go_enter Try.func22, Try.ntmps22
    go_wp2_with fail
    go_ret
    exact ⟨rfl, H.out⟩
end Go.Proofs.Ytadipgkgllcicaa
