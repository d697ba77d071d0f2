/-
  A table in memory; contracts: has, Right.
-/
import Derived.Test.YtmldgfplnacecaaDoorBase
import Derived.Sort.Walk7a
namespace Go.Proofs.YtmldgfplnacecaaDoor
open Go.RowKit Go.Shelf Go.Lib Go.Maps Go.Sort

/-- A table as a value. -/
def TbV (w : World) (R : List (List Int)) (T : List Nat) (v : Value) : Prop := ∃ A c A2 c2, v = .agg #[.slice A R.length c, .slice A2 T.length c2] ∧ RsAt w w.heap.size R A c ∧ UsAt w w.heap.size T A2 c2
theorem TbV.on {w w' : World} {R : List (List Int)} {T : List Nat} {v : Value} (h : TbV w R T v) (hb : Below w.heap.size w w') : TbV w' R T v := by
  obtain ⟨A, c, A2, c2, e, h1, h2⟩ := h
  exact ⟨A, c, A2, c2, e, h1.on hb, h2.on hb⟩
def okIx (n : Nat) (x : Int) : Bool := decide (0 ≤ x) && decide (x < (n : Int))
def rowOk (n : Nat) (r : List Int) : Bool := decide (r.length = 37) && r.all (okIx n)
def rightT (R : List (List Int)) (T : List Nat) : Bool := decide (1 ≤ R.length) && decide (R.length ≤ 1000) && decide (T.length = R.length) && R.all (rowOk R.length)
set_option maxHeartbeats 4000000 in
set_option maxRecDepth 100000 in
theorem has_any (A A2 : Option Addr) (n c n2 c2 : Nat) (x : Int) (_hx : i64 x) (_hn : n ≤ 9223372036854775807) (w : World) :
    Calls Tryd.prog 76 #[.agg #[.slice A n c, .slice A2 n2 c2], .int .i64 x] w fun r w' => r = .returned (.bool (okIx n x)) ∧ Below w.heap.size w w' := by
  have bb := Lib.hid (below_new w (.cells #[.slice A n c, .slice A2 n2 c2] 54))
  unfold i64 at _hx
  by_cases h0 : 0 ≤ x
  · have d0 : decide (0 ≤ x) = true := by simpa using h0
    obtain ⟨R, hR⟩ : ∃ R, okIx n x = R := ⟨_, rfl⟩
    have HR := Lib.hid (show decide (x < (n : Int)) = R by rw [← hR]; unfold okIx; rw [d0]; simp)
    rw [hR]
    clear hR
    go_enter Tryd.func76, Tryd.ntmps76
    go_wp2_with fail
    go_ret
    exact ⟨ret_bool HR.out, bb.out⟩
  · have d0 : decide (0 ≤ x) = false := by simpa using h0
    have hR : okIx n x = false := by unfold okIx; rw [d0]; simp
    rw [hR]
    clear hR
    go_enter Tryd.func76, Tryd.ntmps76
    go_wp2_with fail
    go_ret
    exact ⟨rfl, bb.out⟩
set_option maxHeartbeats 4000000 in
set_option maxRecDepth 100000 in
theorem none_any (A A2 : Option Addr) (n c n2 c2 g : Nat) (x : Int) (hx : i64 x) (hn : n ≤ 9223372036854775807) (w : World) (hg : Cells w g 54 #[.slice A n c, .slice A2 n2 c2]) :
    Calls Tryd.prog 75 #[.int .i64 x, .pointer (some ⟨g, 0, none⟩)] w fun r w' => r = .returned (.bool (!okIx n x)) ∧ Below w.heap.size w w' := by
  have C := Lib.hid (has_any A A2 n c n2 c2 x hx hn w)
  have c0 := hg.cell 0
  have c1 := hg.cell 1
  simp at c0 c1
  clear hg hx hn
  generalize okIx n x = b at *
  go_enter Tryd.func75, Tryd.ntmps75
  go_wp2_with fail
  refine C.out.mono ?_
  rintro r w2 ⟨rfl, hb⟩
  have HB := Lib.hid hb
  clear hb
  go_wp2_with fail
  go_ret
  exact ⟨rfl, HB.out⟩
set_option maxHeartbeats 4000000 in
set_option maxRecDepth 100000 in
theorem index_any (A A2 : Option Addr) (n c n2 c2 g : Nat) (hn : n ≤ 9223372036854775807) (xs : List Int) (A' : Option Addr) (c' : Nat) (w : World) (hg : Cells w g 54 #[.slice A n c, .slice A2 n2 c2]) (hx : IS w w.heap.size xs A' c') :
    Calls Tryd.prog 90 #[.slice A' xs.length c', .func (.func 75) #[] #[.pointer (some ⟨g, 0, none⟩)]] w (IdxOk w (xs.any fun x => !okIx n x)) := by
  have hln : xs.length ≤ 9223372036854775807 := by have := hx.l; have := hx.m; unfold maxLen at this; omega
  obtain ⟨N, hN⟩ : ∃ N, xs.length = N := ⟨_, rfl⟩
  obtain ⟨R, hR⟩ : ∃ R, (xs.any fun x => !okIx n x) = R := ⟨_, rfl⟩
  have H := Lib.hid (And.intro hN (And.intro hR (And.intro hg hx)))
  rw [hN] at hln ⊢
  rw [hR]
  clear hN hR hg hx
  go_enter Tryd.func90, Tryd.ntmps90
  go_wp2_with fail
  go_loopw [8] (fun i wr => ∃ k : Nat, i = .int .i64 (k : Int) ∧ k ≤ N ∧ ((xs.take k).any fun x => !okIx n x) = false ∧ Below w.heap.size w wr) (fun i _ => N - (RowKit.intOf i).toNat)
  case atStart => exact ⟨0, rfl, by omega, rfl, Below.refl _ _⟩
  case round =>
    obtain ⟨k, rfl, hk, hno, hb⟩ := hrel
    by_cases hlt : k < N
    · have i1 : (k : Int) < (N : Int) := by omega
      obtain ⟨x, hx⟩ : ∃ x, xs[k]? = some x := ⟨xs[k]'(by rw [H.out.1]; exact hlt), List.getElem?_eq_getElem _⟩
      obtain ⟨b, o, rfl, hbl, hc⟩ := H.out.2.2.2.r (by rintro rfl; simp at hx)
      have d0 := (hb.cell (p := ⟨b, o + k, none⟩) hbl).trans (hc k x hx)
      have C := none_any A A2 n c n2 c2 g x (H.out.2.2.2.i x (List.mem_of_getElem? hx)) hn wr ((hb.block _ H.out.2.2.1.lt).trans H.out.2.2.1)
      have ht := any_take (fun x => !okIx n x) hx
      have hh := fun hp => any_hit (p := fun x => !okIx n x) hx hp
      rw [hno] at ht
      generalize (!okIx n x) = p at *
      have HC := Lib.hid C
      have HK := Lib.hid (And.intro ht (And.intro hh hb))
      clear C ht hh hb hno hx hc
      cases p
      · go_wp2_with fail
        refine HC.out.mono ?_
        rintro r w2 ⟨rfl, hb2⟩
        have HB2 := Lib.hid (HK.out.2.2.trans (hb2.mono HK.out.2.2.size))
        clear hb2
        go_wp2_with fail
        go_roundw
        case rel => exact ⟨k + 1, by go_num, by omega, by rw [HK.out.1]; rfl, HB2.out⟩
        case measure => simp [RowKit.intOf]; omega
      · go_wp2_with fail
        refine HC.out.mono ?_
        rintro r w2 ⟨rfl, hb2⟩
        have HB2 := Lib.hid (HK.out.2.2.trans (hb2.mono HK.out.2.2.size))
        clear hb2
        go_wp2_with fail
        go_ret
        have hRt : R = true := by rw [← H.out.2.1]; exact HK.out.2.1 (by simp)
        exact ⟨_, rfl, nat64 (by omega), by rw [hRt]; simp, HB2.out⟩
    · obtain rfl : k = N := by omega
      have i1 : ¬ (k : Int) < (k : Int) := by omega
      have e1 : xs.take k = xs := by rw [← H.out.1, List.take_length]
      rw [e1] at hno
      have hRf : R = false := by rw [← H.out.2.1]; exact hno
      have HB := Lib.hid (And.intro hRf hb)
      clear e1 hno hRf hb
      go_wp2_with fail
      go_ret
      exact ⟨_, rfl, by unfold i64; omega, by rw [HB.out.1]; rfl, HB.out.2⟩
set_option maxHeartbeats 4000000 in
set_option maxRecDepth 100000 in
theorem contains_any (A A2 : Option Addr) (n c n2 c2 g : Nat) (hn : n ≤ 9223372036854775807) (xs : List Int) (A' : Option Addr) (c' : Nat) (w : World) (hg : Cells w g 54 #[.slice A n c, .slice A2 n2 c2]) (hx : IS w w.heap.size xs A' c') :
    Calls Tryd.prog 77 #[.slice A' xs.length c', .func (.func 75) #[] #[.pointer (some ⟨g, 0, none⟩)]] w fun r w' => r = .returned (.bool (xs.any fun x => !okIx n x)) ∧ Below w.heap.size w w' := by
  have C := Lib.hid (index_any A A2 n c n2 c2 g hn xs A' c' w hg hx)
  clear hg hx
  generalize (xs.any fun x => !okIx n x) = R at *
  obtain ⟨N, hN⟩ : ∃ N, xs.length = N := ⟨_, rfl⟩
  rw [hN] at C ⊢
  clear hN
  go_enter Tryd.func77, Tryd.ntmps77
  go_wp2_with fail
  refine C.out.mono ?_
  rintro r w2 ⟨i, rfl, hi, hd, hb⟩
  have H := Lib.hid (And.intro hd hb)
  unfold i64 at hi
  clear hd hb
  go_wp2_with fail
  go_ret
  exact ⟨ret_bool H.out.1, H.out.2⟩
end Go.Proofs.YtmldgfplnacecaaDoor
