/-
  Contract: slices.IndexFunc, where there is one pattern, of leaves.
-/
import Derived.Test.YtegkogadceodlaaWh1
namespace Go.Proofs.Ytegkogadceodlaa
open Go.RowKit Go.Shelf Go.Lib Go.Sort

set_option maxRecDepth 100000 in
set_option maxHeartbeats 8000000 in
theorem ix1_any (k1 c1 k2 c2 m1 m2 : Int) (A1 A2 : Option Addr) (d1 d2 : Nat) (b : Bool) (ma mb g oa qa pa ob qb pb r cr : Nat) (w : World) (hl1 : LeafOk w k1 c1 A1 d1) (hl2 : LeafOk w k2 c2 A2 d2)
    (ha : Cells w ma 25 #[.slice (some ⟨g, oa, none⟩) (qa + 1) pa]) (hb : Cells w mb 25 #[.slice (some ⟨g, ob, none⟩) (qb + 1) pb]) (la : qa + 1 ≤ pa) (lb : qb + 1 ≤ pb) (za : qa ≤ 1000000) (zb : qb ≤ 1000000)
    (ea : w.cell? ⟨g, oa, none⟩ = some (.int .i64 m2)) (eb : w.cell? ⟨g, ob + qb, none⟩ = some (.int .i64 m1))
    (er : ∀ (i : Nat) (u : Value), (pt1 k1 c1 A1 d1 k2 c2 A2 d2 b)[i]? = some u → w.cell? ⟨r, i, none⟩ = some u) (hcr : 1 ≤ cr) :
    Calls Try.prog 81 #[.slice (some ⟨r, 0, none⟩) 1 cr, .func (.func 82) #[] #[.pointer (some ⟨ma, 0, none⟩), .pointer (some ⟨mb, 0, none⟩)]] w fun e w' => e = .returned (.int .i64 (if (takesG k2 c2 m2 && takesG k1 c1 m1) = true then 0 else -1)) ∧ Below w.heap.size w w' := by
  have CW := wh1_any k1 c1 k2 c2 m1 m2 A1 A2 d1 d2 b ma mb g oa qa pa ob qb pb w hl1 hl2 ha hb la lb za zb ea eb
  obtain ⟨R, hR⟩ : ∃ R, (takesG k2 c2 m2 && takesG k1 c1 m1) = R := ⟨_, rfl⟩
  rw [hR] at CW ⊢
  have e0 := er 0 _ rfl
  have e1 := er 1 _ rfl
  have e2 := er 2 _ rfl
  have e3 := er 3 _ rfl
  have e4 := er 4 _ rfl
  have e5 := er 5 _ rfl
  have e6 := er 6 _ rfl
  have e7 := er 7 _ rfl
  have e8 := er 8 _ rfl
  have e9 := er 9 _ rfl
  have e10 := er 10 _ rfl
  have e11 := er 11 _ rfl
  have e12 := er 12 _ rfl
  unfold pt1 at CW
  clear ha hb ea eb hl1 hl2 hR er la lb za zb
  go_enter Try.func81, Try.ntmps81
  go_wp2_with fail
  go_loopw [5, 8] (fun _ i wr => (i = .int .i64 0 ∧ wr = w) ∨ (i = .int .i64 1 ∧ R = false ∧ Below w.heap.size w wr)) (fun _ i _ => 3 - (RowKit.intOf i).toNat)
  case atStart => exact .inl ⟨rfl, rfl⟩
  case round =>
    rcases hrel with ⟨rfl, rfl⟩ | ⟨rfl, rfl, hb⟩
    · go_wp2_with fail
      refine CW.mono ?_
      rintro e w2 ⟨rfl, hb2⟩
      have HB := Lib.hid hb2
      clear hb2 CW
      cases R with
      | true =>
        go_wp2_with fail
        go_ret
        exact ⟨rfl, HB.out⟩
      | false =>
        go_wp2_with fail
        go_roundw
        case rel => exact .inr ⟨by simp, by trivial, HB.out⟩
        case measure => simp [RowKit.intOf]
    · have HB := Lib.hid hb
      clear hb CW
      go_wp2_with fail
      go_ret
      exact ⟨rfl, HB.out⟩
end Go.Proofs.Ytegkogadceodlaa
