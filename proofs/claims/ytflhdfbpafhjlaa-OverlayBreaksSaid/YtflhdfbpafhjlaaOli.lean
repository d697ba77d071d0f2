/-
  Contract: virgulelaw25.List.
-/
import Derived.Test.YtflhdfbpafhjlaaOrw
import Derived.Test.YtflhdfbpafhjlaaOto
namespace Go.Proofs.Ytflhdfbpafhjlaa
open Go.RowKit Go.Shelf Go.Lib

set_option maxHeartbeats 4000000 in
theorem list25_any (l : List IT) (A : Option Addr) (c : Nat) (w : World) (hA : IsA w w.heap.size l A c) (hl : l.length ≤ 1000) :
    Calls Try.prog 12 #[.slice A l.length c] w fun e w' => ∃ v, e = .returned v ∧ OwnIt w' w.heap.size l v ∧ Below w.heap.size w w' := by
  obtain ⟨n, hn⟩ : ∃ n, l.length = n := ⟨_, rfl⟩
  rw [hn] at hl ⊢
  have HH := Lib.hid (And.intro hA hn)
  clear hA hn
  go_enter Try.func12, Try.ntmps12
  go_wp2_with fail
  go_loopw [3, 4] (fun v i wr => ∃ k : Nat, i = .int .i64 (k : Int) ∧ k ≤ n ∧ OwnIt wr w.heap.size (l.take k) v ∧ Below w.heap.size w wr) (fun _ i _ => n - (RowKit.intOf i).toNat)
  case atStart => exact ⟨0, rfl, Nat.zero_le _, by simpa using ownIt_nil _ _, Below.refl _ _⟩
  case round =>
    obtain ⟨k, rfl, hk, ho, hb⟩ := hrel
    by_cases hlt : k < n
    · obtain ⟨x, hx⟩ : ∃ x, l[k]? = some x := ⟨l[k]'(by rw [HH.out.2]; exact hlt), List.getElem?_eq_getElem _⟩
      obtain ⟨b, o, rfl, hbl, hc⟩ := (HH.out.1.below hb).r k x hx
      have i1 : (k : Int) < (n : Int) := by omega
      have i2 : (k : Int) ≤ 1000 := by omega
      have C := to_any x wr
      have htk : l.take (k + 1) = l.take k ++ [x] := by rw [List.take_add_one, hx]; rfl
      have hlen : (l.take k).length = k := by rw [List.length_take, HH.out.2]; omega
      obtain ⟨P, hP⟩ : ∃ P, l.take k = P := ⟨_, rfl⟩
      rw [hP] at htk hlen ho
      obtain ⟨xr, xat, xsz, xf, xx, xn, xp⟩ := x
      unfold itA at C hc
      simp only at C hc
      have c0 := hc 0 _ rfl
      have c1 := hc 1 _ rfl
      have c2 := hc 2 _ rfl
      have c3 := hc 3 _ rfl
      have c4 := hc 4 _ rfl
      have c5 := hc 5 _ rfl
      have c6 := hc 6 _ rfl
      simp only [← Nat.add_assoc, Nat.add_zero] at c0 c1 c2 c3 c4 c5 c6
      have H1 := Lib.hid (And.intro ho (And.intro hb (And.intro htk hlen)))
      clear ho hb hc htk hx hP
      go_wp2_with fail
      refine C.mono ?_
      rintro e w2 ⟨rfl, b2⟩
      clear C c0 c1 c2 c3 c4 c5 c6
      have H2 := Lib.hid (And.intro (H1.out.1.below b2) (below_on H1.out.2.1 b2))
      have hbase : w.heap.size ≤ w2.heap.size := H2.out.2.size
      have hpre : P.length ≤ 1000000 := by omega
      clear b2
      go_wp2_with (at_builtin; refine wpList_appI rfl (.tmp 11) (.tmp 17) rfl w.heap.size _ P ⟨xr, xat, xsz, xf, xx, xn, xp⟩ rfl w2 H2.out.1 rfl rfl hpre hbase ?_)
      intro g cp w4 o4 b4 u4
      rw [← H1.out.2.2.1] at o4
      have HE := Lib.hid (And.intro o4 (H2.out.2.trans b4))
      clear o4 b4 u4 hbase hpre hlen
      go_wp2_with fail
      go_roundw
      case rel => exact ⟨k + 1, by go_num, by omega, HE.out.1, HE.out.2⟩
      case measure => simp [RowKit.intOf]; omega
    · obtain rfl : k = n := by omega
      have i1 : ¬ (k : Int) < (k : Int) := by omega
      rw [List.take_of_length_le (by rw [HH.out.2]; exact Nat.le_refl _)] at ho
      have H1 := Lib.hid (And.intro ho hb)
      clear ho hb
      go_wp2_with fail
      go_ret
      exact ⟨_, rfl, H1.out.1, H1.out.2⟩
end Go.Proofs.Ytflhdfbpafhjlaa
