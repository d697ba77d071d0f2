/-
  Contract: the document's Numbers.
-/
import Derived.Test.YtpimadgcojgjaaaDoorStp
import Derived.Test.YtpimadgcojgjaaaDoorNum
import Derived.RangeFuncBox
import Derived.Deep.Onto
namespace Go.Proofs.YtpimadgcojgjaaaDoor
open Go.RowKit Go.Shelf Go.Lib Go.Maps

def natI (l : List Nat) : List Int := l.map fun (x : Nat) => (x : Int)
theorem natI_len (l : List Nat) : (natI l).length = l.length := by simp [natI]
theorem natI_snoc (l : List Nat) (x : Nat) : natI (l ++ [x]) = natI l ++ [(x : Int)] := by simp [natI]
/-- Numbers, or that there are none. -/
def NumsOk (w : World) (o : Option (List Nat)) (r : Ending) (w' : World) : Prop := ∃ v, r = .returned (.tuple #[v, .bool o.isSome]) ∧ OwnI w' w.heap.size (natI (o.getD [])) v ∧ Below w.heap.size w w'
def numsAt (xs : List Nat) (I : Int) : Option (List Nat) := if I < 0 then none else numbersT (xs.drop I.toNat)
theorem numsAt_not {xs : List Nat} {I : Int} (h : (readAt xs I).whole = false) : numsAt xs I = none := by
  unfold numsAt
  unfold readAt at h
  split
  · rfl
  · rename_i h0
    rw [if_neg h0] at h
    unfold numbersT
    rw [if_neg (by simp [h])]
/-- A whole escape lies at a place that there is. -/
theorem whole_at {xs : List Nat} {I : Int} (h : (readAt xs I).whole = true) : ∃ k d : Nat, I = (k : Int) ∧ k + (readAt xs I).size ≤ xs.length ∧ xs[k + 1]? = some d ∧ 2 ≤ (readAt xs I).size ∧ (d ≠ 91 → numsAt xs I = none) ∧
    (d = 91 → 3 ≤ (readAt xs I).size ∧ numsAt xs I = refN [] 0 0 ((xs.drop (k + 2)).take ((readAt xs I).size - 3))) := by
  unfold readAt numsAt at *
  by_cases h0 : I < 0
  · rw [if_pos h0] at h
    simp [escNone] at h
  · rw [if_neg h0] at h ⊢
    rw [if_neg h0]
    obtain ⟨k, rfl⟩ := Int.eq_ofNat_of_zero_le (show 0 ≤ I by omega)
    rw [Int.toNat_natCast] at *
    obtain ⟨d, s, hd, h2, h3⟩ := readT_whole h
    have hs := (readT_size (xs.drop k)).1
    have hl : (xs.drop k).length = xs.length - k := List.length_drop
    have hk : (xs.drop k)[1]? = some d := by rw [hd]; rfl
    rw [List.getElem?_drop] at hk
    refine ⟨k, d, rfl, by omega, hk, h2, fun hne => ?_, fun he => ⟨h3 he, ?_⟩⟩
    · unfold numbersT
      rw [if_neg]
      rintro ⟨_, h4⟩
      rw [hd] at h4
      exact hne (by simpa using h4)
    · unfold numbersT
      rw [if_pos ⟨h, by rw [hd, he]; rfl⟩]
      unfold midL
      rw [List.drop_drop]
theorem pow5 {d c : Nat} (h : c + 1 ≤ 10 ^ d) (hd : d ≤ 5) : c ≤ 99999 := by
  have : 10 ^ d ≤ 10 ^ 5 := Nat.pow_le_pow_right (by decide) hd
  omega
theorem pow_next {d c q : Nat} (h : c + 1 ≤ 10 ^ d) (hq : q ≤ 9) : 10 * c + q + 1 ≤ 10 ^ (d + 1) := by
  rw [Nat.pow_succ]
  generalize 10 ^ d = P at *
  omega
theorem refN_sep (out : List Nat) (cur d : Nat) (r : List Nat) : refN out cur d (59 :: r) = refN (out ++ [cur]) 0 0 r := by rw [refN, if_pos rfl]
theorem refN_dig {out : List Nat} {cur d c : Nat} {r : List Nat} (h1 : 48 ≤ c) (h2 : c ≤ 57) (h5 : d < 5) : refN out cur d (c :: r) = refN out (10 * cur + (c - 48)) (d + 1) r := by
  rw [refN, if_neg (by omega), if_pos ⟨by simp [dig, inR, h1, h2], h5⟩]
theorem refN_bad {out : List Nat} {cur d c : Nat} {r : List Nat} (h59 : c ≠ 59) (h : c < 48 ∨ 57 < c ∨ 5 ≤ d) : refN out cur d (c :: r) = none := by
  rw [refN, if_neg h59, if_neg]
  rintro ⟨h1, h2⟩
  simp [dig, inR] at h1
  omega
theorem set_last (out : List Nat) (c q : Nat) (Q : Int) (hQ : Q = (q : Int)) : (intsC (natI (out ++ [c]))).set out.length (.int .i64 Q) = intsC (natI (out ++ [q])) := by
  subst hQ
  rw [natI_snoc, natI_snoc, intsC_append, intsC_append, List.set_append_right _ _ (by rw [intsC_len, natI_len]; exact Nat.le_refl _), intsC_len, natI_len, Nat.sub_self]
  rfl
theorem last_cell (out : List Nat) (c : Nat) : (intsC (natI (out ++ [c])))[out.length]? = some (.int .i64 (c : Int)) := by
  rw [natI_snoc, intsC_append, List.getElem?_append_right (by rw [intsC_len, natI_len]; exact Nat.le_refl _), intsC_len, natI_len, Nat.sub_self]
  rfl
set_option maxHeartbeats 8000000 in
set_option maxRecDepth 100000 in
/-- The document's Numbers. -/
theorem refNumbers_any (xs : List Nat) (A : Option Addr) (cap : Nat) (I : Int) (hn : xs.length ≤ 100000) (w : World) (h : BY w w.heap.size xs A cap) :
    Calls Tryd.prog 28 #[.slice A xs.length cap, .int .i64 I] w (NumsOk w (numsAt xs I)) := by
  have C := refRead_any xs A cap I w h
  obtain ⟨R, hR⟩ : ∃ R, numsAt xs I = R := ⟨_, rfl⟩
  have hno := fun h => numsAt_not (xs := xs) (I := I) h
  have hyes := fun h => whole_at (xs := xs) (I := I) h
  rw [hR] at hno hyes ⊢
  obtain ⟨N, hN⟩ : ∃ N, xs.length = N := ⟨_, rfl⟩
  rw [hN] at C hyes hn ⊢
  obtain ⟨E, hE⟩ : ∃ E, readAt xs I = E := ⟨_, rfl⟩
  rw [hE] at C hno hyes
  obtain ⟨S, Wh, Op, La⟩ := E
  unfold escV at C
  dsimp only at C hno hyes
  have HC := Lib.hid C
  have HH := Lib.hid (And.intro h hN)
  cases Wh with
  | false =>
    obtain rfl := hno rfl
    clear C hR hE hyes h hN
    go_enter Tryd.func28, Tryd.ntmps28
    go_wp2_with fail
    refine HC.out.mono ?_
    rintro r w1 ⟨rfl, hb1⟩
    have HB := Lib.hid hb1
    clear hb1
    go_wp2_with fail
    refine bodyPost_ret (v := .tuple #[.slice none 0 0, .bool false]) (by simp [results, Tryd.results28, go_sem]) rfl ⟨_, rfl, ownI_nil _ _, below_lit HB.out _⟩
  | true =>
    obtain ⟨k, d, rfl, hks, hd, h2, hne, heq⟩ := hyes rfl
    obtain ⟨b, o, rfl, hbl, d1⟩ := h.at hd
    have d1 : w.cell? ⟨b, o + (k + 1), none⟩ = some (.int .u8 (d : Int)) := d1
    by_cases h91 : d = 91
    case neg =>
      obtain rfl := hne h91
      have i91 : ((d : Int) != 91) = true := by rw [bne_iff_ne]; omega
      generalize (d : Int) = D at *
      have HD := Lib.hid (And.intro d1 hbl)
      clear C hR hE h hN d1 hno hne heq hd
      go_enter Tryd.func28, Tryd.ntmps28
      go_wp2_with fail
      refine HC.out.mono ?_
      rintro r w1 ⟨rfl, hb1⟩
      have d2 := (hb1.cell (p := ⟨b, o + (k + 1), none⟩) HD.out.2).trans HD.out.1
      have hbl1 : b < w1.heap.size := Nat.lt_of_lt_of_le HD.out.2 hb1.size
      have HB := Lib.hid hb1
      clear hb1
      go_wp2_with fail
      refine bodyPost_ret (v := .tuple #[.slice none 0 0, .bool false]) (by simp [results, Tryd.results28, go_sem]) rfl ⟨_, rfl, ownI_nil _ _, below_lit HB.out _⟩
    subst h91
    obtain ⟨h3, hr⟩ := heq rfl
    have d1 : w.cell? ⟨b, o + (k + 1), none⟩ = some (.int .u8 91) := d1
    obtain ⟨M, hM⟩ : ∃ M, (xs.drop (k + 2)).take (S - 3) = M := ⟨_, rfl⟩
    have hMl : M.length = S - 3 := by rw [← hM, List.length_take, List.length_drop, hN]; omega
    have hMx : ∀ j x, M[j]? = some x → xs[k + 2 + j]? = some x := fun j x hx => by
      rw [← hM, List.getElem?_take] at hx
      split at hx
      · rwa [List.getElem?_drop] at hx
      · cases hx
    rw [hM] at hr
    have HM := Lib.hid (And.intro hMl (And.intro hMx hr))
    have HD := Lib.hid (And.intro d1 hbl)
    clear C hR hE h hN d1 hno hne heq hd hM hMl hMx hr
    go_enter Tryd.func28, Tryd.ntmps28
    go_wp2_with fail
    refine HC.out.mono ?_
    rintro r w1 ⟨rfl, hb1⟩
    have d2 := (hb1.cell (p := ⟨b, o + (k + 1), none⟩) HD.out.2).trans HD.out.1
    have hbl1 : b < w1.heap.size := Nat.lt_of_lt_of_le HD.out.2 hb1.size
    have HB := Lib.hid hb1
    clear hb1
    go_wp2_with fail
    obtain ⟨W1, hW1⟩ : ∃ W, w1.alloc (.cells #[.int .i64 (S : Int), .bool true, .bool Op, .int .u8 (La : Int)] 44) = W := ⟨_, rfl⟩
    have c1 : Cells W1 w1.heap.size 44 #[.int .i64 (S : Int), .bool true, .bool Op, .int .u8 (La : Int)] := by rw [← hW1]; exact cells_new _ _ _
    have z1 : W1.heap.size = w1.heap.size + 1 := by rw [← hW1]; simp
    have b1 : Below w.heap.size w W1 := by rw [← hW1]; exact below_lit HB.out _
    have o1 : OwnI (W1.alloc (.cells #[.int .i64 0] 3)) W1.heap.size (natI ([] ++ [0])) (.slice (some ⟨W1.heap.size, 0, none⟩) 1 1) := ownI_lit W1 [0] (by decide)
    have H1 := Lib.hid (And.intro c1 (And.intro b1 (And.intro o1 z1)))
    clear c1 b1 o1 d2 HB
    rw [← z1, hW1]
    clear z1
    go_loopw [7, 8, 9, 10] (fun v ds i _ wr => ∃ (out : List Nat) (c q j g cp : Nat), i = .int .i64 ((k + 2 + j : Nat) : Int) ∧ j ≤ S - 3 ∧ ds = .int .i64 (q : Int) ∧ q ≤ 5 ∧ c + 1 ≤ 10 ^ q ∧ out.length ≤ j ∧ v = .slice (some ⟨g, 0, none⟩) (out.length + 1) cp ∧
        OwnI wr W1.heap.size (natI (out ++ [c])) v ∧ refN out c q (M.drop j) = R ∧ Below W1.heap.size W1 wr) (fun _ _ i _ _ => N - (RowKit.intOf i).toNat)
    case atStart => exact ⟨[], 0, 0, 0, W1.heap.size, 1, by go_num, by omega, by go_num, by omega, by decide, by simp, by simp, H1.out.2.2.1, HM.out.2.2.symm, below_new _ _⟩
    case round =>
      obtain ⟨out, c, q, j, g, cp, rfl, hj, rfl, hq, hc10, hol, rfl, ho, hs, hb⟩ := hrel
      have c0 : Cells wr w1.heap.size 44 #[.int .i64 (S : Int), .bool true, .bool Op, .int .u8 (La : Int)] := (hb.block _ (by rw [H1.out.2.2.2]; omega)).trans H1.out.1
      have e0 := c0.cell 0
      clear c0
      simp at e0
      have hsum : (k : Int) + (S : Int) - 1 = ((k + S - 1 : Nat) : Int) := by omega
      obtain ⟨T, hT⟩ : ∃ T, k + S - 1 = T := ⟨_, rfl⟩
      obtain ⟨J, hJ⟩ : ∃ J, k + 2 + j = J := ⟨_, rfl⟩
      rw [hT] at hsum
      rw [hJ]
      have hc9 := pow5 hc10 hq
      by_cases hlt : j < S - 3
      case neg =>
        obtain rfl : j = S - 3 := by omega
        have i1 : ¬ (J : Int) < (T : Int) := by omega
        have : R = some (out ++ [c]) := by rw [← hs, ← HM.out.1, List.drop_length]; rfl
        subst this
        have HK := Lib.hid (And.intro ho (And.intro hb (H1.out.2.1.trans (hb.mono H1.out.2.1.size))))
        clear ho hb hs hc10 hT hJ hol
        go_wp2_with fail
        refine bodyPost_ret (v := .tuple #[.slice (some ⟨g, 0, none⟩) (out.length + 1) cp, .bool true]) (by simp [results, Tryd.results28, go_sem]) rfl ⟨_, rfl, World.ownsRow.mono HK.out.1 H1.out.2.1.size, HK.out.2.2⟩
      have i1 : (J : Int) < (T : Int) := by omega
      obtain ⟨x, hxM⟩ := at_lt (l := M) (k := j) (by rw [HM.out.1]; exact hlt)
      have hx := HM.out.2.1 j x hxM
      rw [hJ] at hx
      obtain ⟨b', o', e, _, d0⟩ := HH.out.1.at hx
      obtain ⟨rfl, rfl⟩ : b = b' ∧ o = o' := by simpa using e
      have d0 := (H1.out.2.1.cell (p := ⟨b, o + J, none⟩) HD.out.2).trans d0
      have d0 := (hb.cell (p := ⟨b, o + J, none⟩) (by have := H1.out.2.1.size; have := HD.out.2; show b < _; omega)).trans d0
      have hx256 := HH.out.1.lt hx
      have hJN : J < N := by have := (List.getElem?_eq_some_iff.1 hx).1; rw [HH.out.2] at this; exact this
      have iJN : (J : Int) < (N : Int) := by omega
      rw [drop_at hxM] at hs
      obtain ⟨X, hX⟩ : ∃ X : Int, (x : Int) = X := ⟨_, rfl⟩
      rw [hX] at d0
      have hnx : J + 1 = k + 2 + (j + 1) := by omega
      by_cases h59 : x = 59
      · subst h59
        have e59 : (X == 59) = true := by rw [beq_iff_eq]; omega
        rw [refN_sep] at hs
        have ho3 : OwnI (wr.alloc (.cells #[.int .i64 0] 3)) W1.heap.size (natI (out ++ [c])) (.slice (some ⟨g, 0, none⟩) (out.length + 1) cp) := ho.below (below_new _ _)
        have c3 : (wr.alloc (.cells #[.int .i64 0] 3)).cell? ⟨wr.heap.size, 0, none⟩ = some (.int .i64 0) := by rw [World.cell?_alloc_new]; rfl
        have b3 := below_lit hb (.cells #[.int .i64 0] 3)
        have hl3 : (natI (out ++ [c])).length = out.length + 1 := by simp [natI]
        have HL := Lib.hid (And.intro ho3 (And.intro c3 (And.intro b3 (And.intro hl3 (And.intro hs hnx)))))
        clear ho hs hb ho3 c3 b3 hl3 hx hxM hX hT hJ hnx hc10 e
        go_wp2_with (first
          | (at_builtin
             refine wpList_appI rfl (.tmp 44) (.tmp 45) rfl W1.heap.size _ (natI (out ++ [c])) (out.length + 1) HL.out.2.2.2.1 rfl HL.out.1 ⟨wr.heap.size, 0, none⟩ 0 rfl HL.out.2.1 (by omega) HL.out.2.2.1.size ?_)
          | fail)
        intro g2 cp2 w4 h4 hb4
        have hend : ∃ (out' : List Nat) (c' q' j' g' cp' : Nat), Value.int .i64 ((J : Int) + 1) = .int .i64 ((k + 2 + j' : Nat) : Int) ∧ j' ≤ S - 3 ∧ Value.int .i64 0 = .int .i64 (q' : Int) ∧ q' ≤ 5 ∧ c' + 1 ≤ 10 ^ q' ∧ out'.length ≤ j' ∧ Value.slice (some ⟨g2, 0, none⟩) (out.length + 1 + 1) cp2 = .slice (some ⟨g', 0, none⟩) (out'.length + 1) cp' ∧
            OwnI w4 W1.heap.size (natI (out' ++ [c'])) (Value.slice (some ⟨g2, 0, none⟩) (out.length + 1 + 1) cp2) ∧ refN out' c' q' (M.drop j') = R ∧ Below W1.heap.size W1 w4 :=
          ⟨out ++ [c], 0, 0, j + 1, g2, cp2, by rw [← HL.out.2.2.2.2.2]; simp, by omega, rfl, by omega, by decide, by simp; omega, by simp, by rw [natI_snoc]; exact h4, HL.out.2.2.2.2.1, HL.out.2.2.1.trans hb4⟩
        have HEND := Lib.hid hend
        clear hend h4 hb4
        go_wp2_with fail
        go_roundw
        case rel => exact HEND.out
        case measure => simp [RowKit.intOf]; omega
      · have e59 : (X == 59) = false := by rw [beq_eq_false_iff_ne]; omega
        by_cases hdg : 48 ≤ x ∧ x ≤ 57 ∧ q < 5
        · obtain ⟨ha, hbb, h5⟩ := hdg
          rw [refN_dig ha hbb h5] at hs
          have a48 : decide (48 ≤ X) = true := by simp; omega
          have a57 : decide (X ≤ 57) = true := by simp; omega
          have a5 : (q : Int) < 5 := by omega
          have i2 : 48 ≤ X := by omega
          have i3 : X ≤ 57 := by omega
          have i9 : (c : Int) ≤ 99999 := by omega
          obtain ⟨Q, hQ⟩ : ∃ Q : Nat, 10 * c + (x - 48) = Q := ⟨_, rfl⟩
          rw [hQ] at hs
          have hq2 : 10 * (c : Int) + (X - 48) = (Q : Int) := by omega
          have hp10 : Q + 1 ≤ 10 ^ (q + 1) := by rw [← hQ]; exact pow_next hc10 (by omega)
          have hl3 : (natI (out ++ [c])).length = out.length + 1 := by simp [natI]
          have ho' := ho
          unfold OwnI at ho'
          rw [hl3] at ho'
          have f0 := World.ownsRow.cellAt ho' out.length (by omega)
          rw [last_cell] at f0
          have f1 := World.ownsRow.frozenAt ho' out.length
          obtain ⟨hst, _⟩ := World.ownsRow.stored ho' out.length (.int .i64 (Q : Int))
          rw [set_last out c Q _ rfl] at hst
          have hlt3 := (World.ownsRow.lt ho' g rfl).1
          have hbs := hb.setCell (p := ⟨g, out.length, none⟩) hlt3 (.int .i64 (Q : Int))
          obtain ⟨L, hL⟩ : ∃ L, out.length = L := ⟨_, rfl⟩
          rw [hL] at f0 f1 hst hbs hl3 hol
          rw [hL]
          have iL : (L : Int) + 1 - 1 = (L : Int) := by omega
          have iL2 : (L : Int) < (L : Int) + 1 := by omega
          have HL := Lib.hid (And.intro hst (And.intro hbs (And.intro hp10 (And.intro hs (And.intro hnx hL)))))
          clear ho ho' hs hb hl3 hx hxM hX hT hJ hnx hc10 e hst hbs hp10 hQ hL ha hbb hlt3
          go_wp2_with fail
          go_roundw
          case rel =>
            refine ⟨out, Q, q + 1, j + 1, g, cp, ?_, by omega, by go_num, by omega, HL.out.2.2.1, by rw [HL.out.2.2.2.2.2]; omega, by rw [HL.out.2.2.2.2.2], ?_, HL.out.2.2.2.1, HL.out.2.1⟩
            · rw [← HL.out.2.2.2.2.1]; go_num
            · have := HL.out.1
              unfold OwnI
              rw [natI_len, List.length_append, HL.out.2.2.2.2.2]
              exact this
          case measure => simp [RowKit.intOf]; omega
        · have hbad : x < 48 ∨ 57 < x ∨ 5 ≤ q := by omega
          rw [refN_bad h59 hbad] at hs
          subst hs
          have HK := Lib.hid (H1.out.2.1.trans (hb.mono H1.out.2.1.size))
          clear ho hb hx hxM hT hJ hnx hc10 e hbad
          by_cases hlo : x < 48
          · have a48 : decide (48 ≤ X) = false := by simp; omega
            clear hX hdg
            go_wp2_with fail
            refine bodyPost_ret (v := .tuple #[.slice none 0 0, .bool false]) (by simp [results, Tryd.results28, go_sem]) rfl ⟨_, rfl, ownI_nil _ _, HK.out⟩
          · have a48 : decide (48 ≤ X) = true := by simp; omega
            by_cases hhi : 57 < x
            · have a57 : decide (X ≤ 57) = false := by simp; omega
              clear hX hdg
              go_wp2_with fail
              refine bodyPost_ret (v := .tuple #[.slice none 0 0, .bool false]) (by simp [results, Tryd.results28, go_sem]) rfl ⟨_, rfl, ownI_nil _ _, HK.out⟩
            · have a57 : decide (X ≤ 57) = true := by simp; omega
              have a5 : ¬ (q : Int) < 5 := by omega
              clear hX hdg
              go_wp2_with fail
              refine bodyPost_ret (v := .tuple #[.slice none 0 0, .bool false]) (by simp [results, Tryd.results28, go_sem]) rfl ⟨_, rfl, ownI_nil _ _, HK.out⟩
end Go.Proofs.YtpimadgcojgjaaaDoor
