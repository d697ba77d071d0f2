/-
  Contract: the document's Usual.
-/
import Derived.Test.YtadipgkgllcicaaPko
namespace Go.Proofs.Ytadipgkgllcicaa
open Go.RowKit Go.Shelf Go.Lib Go.Maps

def bestR (row : List Int) (i : Nat) : Int := if i = 0 then 0 else (row.take i).foldl (pickR row) (row.getD 0 0)
def oftR (row : List Int) (i : Nat) : Nat := if i = 0 then 0 else row.count (bestR row i)
theorem count_take {l : List Int} {k : Nat} {y x : Int} (h : l[k]? = some y) : (l.take (k + 1)).count x = (l.take k).count x + if y = x then 1 else 0 := by
  rw [List.take_add_one, h, Option.toList_some, List.count_append]
  congr 1
  by_cases q : y = x <;> simp [q]
theorem best_step {row : List Int} {i : Nat} {x : Int} (h : row[i]? = some x) : bestR row (i + 1) = if oftR row i < row.count x ∨ (row.count x = oftR row i ∧ x < bestR row i) then x else bestR row i := by
  have e : bestR row (i + 1) = pickR row (if i = 0 then row.getD 0 0 else bestR row i) x := by
    unfold bestR
    rw [if_neg (by omega), usual_take h]
    by_cases q : i = 0
    · subst q; simp
    · rw [if_neg q, if_neg q]
  rw [e]
  by_cases q : i = 0
  · subst q
    have hx : row.getD 0 0 = x := getD_get h
    have hc : 0 < row.count x := List.count_pos_iff.2 (List.mem_of_getElem? h)
    rw [if_pos rfl, hx, if_pos (by left; unfold oftR; rw [if_pos rfl]; exact hc)]
    unfold pickR
    split <;> rfl
  · rw [if_neg q]
    have ho : oftR row i = row.count (bestR row i) := by unfold oftR; rw [if_neg q]
    rw [ho]
    rfl
theorem oft_step {row : List Int} {i : Nat} {x : Int} (h : row[i]? = some x) : oftR row (i + 1) = if oftR row i < row.count x ∨ (row.count x = oftR row i ∧ x < bestR row i) then row.count x else oftR row i := by
  have e : oftR row (i + 1) = row.count (bestR row (i + 1)) := by unfold oftR; rw [if_neg (by omega)]
  rw [e, best_step h]
  by_cases c : oftR row i < row.count x ∨ (row.count x = oftR row i ∧ x < bestR row i)
  · rw [if_pos c, if_pos c]
  · rw [if_neg c, if_neg c]
    by_cases q : i = 0
    · exfalso
      subst q
      have hc : 0 < row.count x := List.count_pos_iff.2 (List.mem_of_getElem? h)
      exact c (.inl (by unfold oftR; rw [if_pos rfl]; exact hc))
    · unfold oftR; rw [if_neg q]
set_option maxHeartbeats 8000000 in
set_option maxRecDepth 100000 in
theorem refUsual_any (row : List Int) (A : Option Addr) (cap : Nat) (h1 : 1 ≤ row.length) (h64 : row.length ≤ 64) (w : World) (h : IS w w.heap.size row A cap) :
    Calls Try.prog 26 #[.slice A row.length cap] w fun r w' => r = .returned (.int .i64 (usualR row)) ∧ Below w.heap.size w w' := by
  obtain ⟨N, hN⟩ : ∃ N, row.length = N := ⟨_, rfl⟩
  have hcnt : ∀ x, row.count x ≤ N := fun x => by rw [← hN]; exact List.count_le_length
  have hend : bestR row N = usualR row := by
    unfold bestR usualR
    rw [if_neg (by omega), show row.take N = row by rw [← hN, List.take_length]]
  obtain ⟨R, hR⟩ : ∃ R, usualR row = R := ⟨_, rfl⟩
  rw [hR] at hend
  have H := Lib.hid (And.intro h (And.intro hN (And.intro hcnt hend)))
  rw [hN] at h1 h64
  rw [hN, hR]
  clear h hN hcnt hend hR
  go_enter Try.func26, Try.ntmps26
  go_wp2_with fail
  go_loopw [3, 4, 5, 6, 7] (fun bv ov iv _ _ wr => ∃ i : Nat, iv = .int .i64 (i : Int) ∧ i ≤ N ∧ (∃ u, bv = .int .i64 u ∧ bestR row i = u) ∧ (∃ o : Nat, ov = .int .i64 (o : Int) ∧ oftR row i = o ∧ o ≤ N) ∧ Below w.heap.size w wr) (fun _ _ iv _ _ _ => N - (RowKit.intOf iv).toNat)
  case atStart => exact ⟨0, rfl, by omega, ⟨0, rfl, rfl⟩, ⟨0, rfl, rfl, by omega⟩, Below.refl _ _⟩
  case round =>
    obtain ⟨wo, rfl⟩ : ∃ wo : World, wo = wr := ⟨_, rfl⟩
    obtain ⟨i, rfl, hi, ⟨u, rfl, hu⟩, ⟨o, rfl, ho, hoN⟩, hb⟩ := hrel
    by_cases hlt : i < N
    · have i1 : (i : Int) < (N : Int) := by omega
      obtain ⟨x, hx⟩ := list_at (xs := row) (i := i) (by rw [H.out.2.1]; exact hlt)
      obtain ⟨b, oo, rfl, hbl, hc⟩ := H.out.1.r (by rintro rfl; simp at hx)
      have HX := Lib.hid (And.intro hx (And.intro hc (And.intro hb (And.intro hu ho))))
      clear hx hc hb hu ho
      go_wp2_with fail
      go_loopw [6, 7] (fun nv kv ws => ∃ k : Nat, kv = .int .i64 (k : Int) ∧ k ≤ N ∧ (∃ n : Nat, nv = .int .i64 (n : Int) ∧ (row.take k).count x = n ∧ n ≤ k) ∧ Below wo.heap.size wo ws) (fun _ kv _ => N - (RowKit.intOf kv).toNat)
      case atStart => exact ⟨0, rfl, by omega, ⟨0, rfl, rfl, by omega⟩, Below.refl _ _⟩
      case round =>
        obtain ⟨k, rfl, hk, ⟨n, rfl, hn, hnk⟩, hbk⟩ := hrel
        have Bk := HX.out.2.2.1.trans (hbk.mono HX.out.2.2.1.size)
        have dx := (Bk.cell (p := ⟨b, oo + i, none⟩) hbl).trans (HX.out.2.1 i x HX.out.1)
        by_cases hlt2 : k < N
        · have i2 : (k : Int) < (N : Int) := by omega
          obtain ⟨y, hy⟩ := list_at (xs := row) (i := k) (by rw [H.out.2.1]; exact hlt2)
          have dy := (Bk.cell (p := ⟨b, oo + k, none⟩) hbl).trans (HX.out.2.1 k y hy)
          have ht := count_take (x := x) hy
          rw [hn] at ht
          have HK := Lib.hid (And.intro ht hbk)
          clear ht hbk hy hn Bk
          by_cases he : y = x
          · have hq : (y == x) = true := by simpa using he
            have HE := Lib.hid (show (row.take (k + 1)).count x = n + 1 by rw [HK.out.1, if_pos he])
            clear he
            go_wp2_with fail
            go_region
            go_wp2_with fail
            go_roundw
            case rel => exact ⟨k + 1, by go_num, by omega, ⟨n + 1, by simp, HE.out, by omega⟩, HK.out.2.drew⟩
            case measure => simp [RowKit.intOf]; omega
          · have hq : (y == x) = false := by simpa using he
            have HE := Lib.hid (show (row.take (k + 1)).count x = n by rw [HK.out.1, if_neg he]; rfl)
            clear he
            go_wp2_with fail
            go_region
            go_wp2_with fail
            go_roundw
            case rel => exact ⟨k + 1, by go_num, by omega, ⟨n, rfl, HE.out, by omega⟩, HK.out.2.drew⟩
            case measure => simp [RowKit.intOf]; omega
        · obtain rfl : k = N := by omega
          have i2 : ¬ (k : Int) < (k : Int) := by omega
          have e1 : row.take k = row := by rw [← H.out.2.1, List.take_length]
          rw [e1] at hn
          have hs := best_step HX.out.1
          have hs2 := oft_step HX.out.1
          rw [hn, HX.out.2.2.2.1, HX.out.2.2.2.2] at hs hs2
          have HK := Lib.hid (And.intro hs (And.intro hs2 Bk))
          clear hs hs2 Bk hbk hn e1
          by_cases q1 : o < n
          · have j1 : (o : Int) < (n : Int) := by omega
            have HE := Lib.hid (And.intro (show bestR row (i + 1) = x by rw [HK.out.1, if_pos (.inl q1)]) (show oftR row (i + 1) = n by rw [HK.out.2.1, if_pos (.inl q1)]))
            clear q1
            go_wp2_with fail
            go_roundw
            case rel => exact ⟨i + 1, by go_num, by omega, ⟨x, rfl, HE.out.1⟩, ⟨n, rfl, HE.out.2, by omega⟩, HK.out.2.2⟩
            case measure => simp [RowKit.intOf]; omega
          · have j1 : ¬ (o : Int) < (n : Int) := by omega
            by_cases q2 : n = o
            · have j2 : ((n : Int) == (o : Int)) = true := by simp; omega
              by_cases q3 : x < u
              · have HE := Lib.hid (And.intro (show bestR row (i + 1) = x by rw [HK.out.1, if_pos (.inr ⟨q2, q3⟩)]) (show oftR row (i + 1) = n by rw [HK.out.2.1, if_pos (.inr ⟨q2, q3⟩)]))
                clear q1 q2
                go_wp2_with fail
                go_roundw
                case rel => exact ⟨i + 1, by go_num, by omega, ⟨x, rfl, HE.out.1⟩, ⟨n, rfl, HE.out.2, by omega⟩, HK.out.2.2⟩
                case measure => simp [RowKit.intOf]; omega
              · have HE := Lib.hid (And.intro (show bestR row (i + 1) = u by rw [HK.out.1, if_neg (by omega)]) (show oftR row (i + 1) = o by rw [HK.out.2.1, if_neg (by omega)]))
                clear q1 q2
                go_wp2_with fail
                go_roundw
                case rel => exact ⟨i + 1, by go_num, by omega, ⟨u, rfl, HE.out.1⟩, ⟨o, rfl, HE.out.2, by omega⟩, HK.out.2.2⟩
                case measure => simp [RowKit.intOf]; omega
            · have j2 : ((n : Int) == (o : Int)) = false := by simp; omega
              have HE := Lib.hid (And.intro (show bestR row (i + 1) = u by rw [HK.out.1, if_neg (by omega)]) (show oftR row (i + 1) = o by rw [HK.out.2.1, if_neg (by omega)]))
              clear q1 q2
              go_wp2_with fail
              go_roundw
              case rel => exact ⟨i + 1, by go_num, by omega, ⟨u, rfl, HE.out.1⟩, ⟨o, rfl, HE.out.2, by omega⟩, HK.out.2.2⟩
              case measure => simp [RowKit.intOf]; omega
    · obtain rfl : i = N := by omega
      have i1 : ¬ (i : Int) < (i : Int) := by omega
      obtain rfl : R = u := by rw [← H.out.2.2.2, hu]
      have HB := Lib.hid hb
      clear hb hu ho
      go_wp2_with fail
      go_ret
      exact ⟨rfl, HB.out⟩
end Go.Proofs.Ytadipgkgllcicaa
