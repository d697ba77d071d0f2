/-
  Contract: ansi.Numbers.
-/
import Derived.Test.YtpimadgcojgjaaaDoorSpl
namespace Go.Proofs.YtpimadgcojgjaaaDoor
open Go.RowKit Go.Shelf Go.Lib Go.Maps

theorem numsP_cons {p : List Nat} {r : List (List Nat)} {n : Nat} (h : numT p = some n) : numsP (p :: r) = (numsP r).map (n :: ·) := by
  simp only [numsP, h]
  cases numsP r <;> rfl
theorem numsP_bad {p : List Nat} {r : List (List Nat)} (h : numT p = none) : numsP (p :: r) = none := by simp only [numsP, h]
theorem map_snoc (l : List Nat) (n : Nat) (o : Option (List Nat)) : (o.map (n :: ·)).map (l ++ ·) = o.map ((l ++ [n]) ++ ·) := by cases o <;> simp
set_option maxHeartbeats 8000000 in
set_option maxRecDepth 100000 in
/-- ansi.Numbers. -/
theorem numbers_any (xs : List Nat) (A : Option Addr) (cap : Nat) (I : Int) (hn : xs.length ≤ 100000) (w : World) (h : BY w w.heap.size xs A cap) (hm : MX w) :
    Calls Tryd.prog 27 #[.slice A xs.length cap, .int .i64 I] w (NumsOk w (numsAt xs I)) := by
  have C := read_any xs A cap I w h
  obtain ⟨R, hR⟩ : ∃ R, numsAt xs I = R := ⟨_, rfl⟩
  have hno := fun h => numsAt_not (xs := xs) (I := I) h
  have hyes := fun h => whole_at (xs := xs) (I := I) h
  rw [hR] at hno hyes ⊢
  obtain ⟨N, hN⟩ : ∃ N, xs.length = N := ⟨_, rfl⟩
  rw [hN] at C hyes hn ⊢
  obtain ⟨E, hE⟩ : ∃ E, readAt xs I = E := ⟨_, rfl⟩
  rw [hE] at C hno hyes
  obtain ⟨S, Wh, Op, La⟩ := E
  unfold escV at C
  dsimp only at C hno hyes
  have HC := Lib.hid C
  have HH := Lib.hid (And.intro h (And.intro hN hm))
  cases Wh with
  | false =>
    obtain rfl := hno rfl
    clear C hR hE hyes h hN hm
    go_enter Tryd.func27, Tryd.ntmps27
    go_wp2_with fail
    refine HC.out.mono ?_
    rintro r w1 ⟨rfl, hb1⟩
    have HB := Lib.hid hb1
    clear hb1
    go_wp2_with fail
    refine bodyPost_ret (v := .tuple #[.slice none 0 0, .bool false]) (by simp [results, Tryd.results27, go_sem]) rfl ⟨_, rfl, ownI_nil _ _, below_lit HB.out _⟩
  | true =>
    obtain ⟨k, d, rfl, hks, hd, h2, hne, heq⟩ := hyes rfl
    obtain ⟨b, o, rfl, hbl, d1⟩ := h.at hd
    have d1 : w.cell? ⟨b, o + (k + 1), none⟩ = some (.int .u8 (d : Int)) := d1
    by_cases h91 : d = 91
    case neg =>
      obtain rfl := hne h91
      have i91 : ((d : Int) != 91) = true := by rw [bne_iff_ne]; omega
      generalize (d : Int) = D at *
      have HD := Lib.hid (And.intro d1 hbl)
      clear C hR hE h hN d1 hno hne heq hd hm
      go_enter Tryd.func27, Tryd.ntmps27
      go_wp2_with fail
      refine HC.out.mono ?_
      rintro r w1 ⟨rfl, hb1⟩
      have d2 := (hb1.cell (p := ⟨b, o + (k + 1), none⟩) HD.out.2).trans HD.out.1
      have hbl1 : b < w1.heap.size := Nat.lt_of_lt_of_le HD.out.2 hb1.size
      have HB := Lib.hid hb1
      clear hb1
      go_wp2_with fail
      refine bodyPost_ret (v := .tuple #[.slice none 0 0, .bool false]) (by simp [results, Tryd.results27, go_sem]) rfl ⟨_, rfl, ownI_nil _ _, below_lit HB.out _⟩
    subst h91
    obtain ⟨h3, hr⟩ := heq rfl
    have d1 : w.cell? ⟨b, o + (k + 1), none⟩ = some (.int .u8 91) := d1
    obtain ⟨M, hM⟩ : ∃ M, (xs.drop (k + 2)).take (S - 3) = M := ⟨_, rfl⟩
    have hMl : M.length = S - 3 := by rw [← hM, List.length_take, List.length_drop, hN]; omega
    have hBM : BY w w.heap.size M (some ⟨b, o + (k + 2), none⟩) (cap - (k + 2)) := by rw [← hM]; exact (h.drop (by omega)).take _
    rw [hM] at hr
    have hcap := h.l
    have hmx := h.m
    unfold maxLen at hmx
    rw [hN] at hcap
    have HM := Lib.hid (And.intro hMl (And.intro hr hBM))
    have HD := Lib.hid (And.intro d1 hbl)
    clear C hR hE h hN d1 hno hne heq hd hM hMl hr hBM hm
    have hsum : (k : Int) + (S : Int) - 1 = ((k + S - 1 : Nat) : Int) := by omega
    go_enter Tryd.func27, Tryd.ntmps27
    go_wp2_with fail
    refine HC.out.mono ?_
    rintro r w1 ⟨rfl, hb1⟩
    have d2 := (hb1.cell (p := ⟨b, o + (k + 1), none⟩) HD.out.2).trans HD.out.1
    have hbl1 : b < w1.heap.size := Nat.lt_of_lt_of_le HD.out.2 hb1.size
    have HB := Lib.hid hb1
    clear hb1
    go_wp2_with fail
    obtain ⟨W2, hW2⟩ : ∃ W, (w1.alloc (.cells #[.int .i64 (S : Int), .bool true, .bool Op, .int .u8 (La : Int)] 42)).alloc (.cells #[.int .u8 59] 5) = W := ⟨_, rfl⟩
    rw [hW2, show k + S - 1 - (k + 2) = M.length by rw [HM.out.1]; omega]
    have b2 : Below w.heap.size w W2 := by rw [← hW2]; exact (below_lit (below_lit HB.out _) _)
    have c2 : W2.cell? ⟨w1.heap.size + 1, 0, none⟩ = some (.int .u8 59) := by
      have := cells_new (w1.alloc (.cells #[.int .i64 (S : Int), .bool true, .bool Op, .int .u8 (La : Int)] 42)) #[.int .u8 59] 5
      rw [hW2, World.size_alloc] at this
      exact this.cell 0
    have hlM : M.length ≤ 100000 := by rw [HM.out.1]; omega
    have hSP := split_any M b (o + (k + 2)) (cap - (k + 2)) W2 (HM.out.2.2.on b2) hlM (by have := b2.size; have := HD.out.2; omega) (w1.heap.size + 1) c2 (HH.out.2.2.on b2)
    have HB2 := Lib.hid b2
    refine hSP.mono ?_
    clear hSP b2 c2 hW2 d2 HB
    rintro r w3 ⟨PS, g, rfl, hnum, hpl, hps, hb3⟩
    rw [← HM.out.2.1] at hnum
    obtain ⟨P, hP⟩ : ∃ P, PS.length = P := ⟨_, rfl⟩
    have hP2 : P ≤ 100001 := by omega
    rw [hP]
    have b3 : Below w.heap.size w w3 := HB2.out.trans (hb3.mono HB2.out.size)
    have HP := Lib.hid (And.intro hnum (And.intro hP (And.intro hps b3)))
    clear hnum hpl hP hps hb3 b3 hbl1 HB2 hlM
    go_wp2_with fail
    go_loopw [7, 9, 10, 11, 38] (fun v _ _ _ i wr => ∃ (j : Nat) (l : List Nat), i = .int .i64 (j : Int) ∧ j ≤ P ∧ l.length ≤ j ∧ OwnI wr w3.heap.size (natI l) v ∧ (numsP (PS.drop j)).map (l ++ ·) = R ∧ Below w3.heap.size w3 wr) (fun _ _ _ _ i _ => P - (RowKit.intOf i).toNat)
    case atStart => exact ⟨0, [], by go_num, by omega, by simp, ownI_nil _ _, by rw [List.drop_zero, HP.out.1]; cases R <;> simp, Below.refl _ _⟩
    case round =>
      obtain ⟨j, l, rfl, hj, hl, ho, hs, hb⟩ := hrel
      by_cases hlt : j < P
      case neg =>
        obtain rfl : j = P := by omega
        have i1 : ¬ (j : Int) < (j : Int) := by omega
        have : R = some l := by rw [← hs, ← HP.out.2.1, List.drop_length]; simp [numsP]
        subst this
        have HK := Lib.hid (And.intro ho (HP.out.2.2.2.trans (hb.mono HP.out.2.2.2.size)))
        clear ho hb hs hl
        go_wp2_with fail
        refine bodyPost_ret (v := .tuple #[u7, .bool true]) (by simp [results, Tryd.results27, go_sem]) rfl ⟨_, rfl, World.ownsRow.mono HK.out.1 HP.out.2.2.2.size, HK.out.2⟩
      have i1 : (j : Int) < (P : Int) := by omega
      obtain ⟨p, hp⟩ := at_lt (l := PS) (k := j) (by rw [HP.out.2.1]; exact hlt)
      obtain ⟨Ap, cp, e0, hB⟩ := (HP.out.2.2.1.on hb).p j p hp
      have C := number_any p Ap cp wr hB
      rw [drop_at hp] at hs
      obtain ⟨NP, hNP⟩ : ∃ NP, p.length = NP := ⟨_, rfl⟩
      rw [hNP] at e0 C
      cases hq : numT p with
      | none =>
        rw [numsP_bad hq] at hs
        rw [hq] at C
        obtain rfl : R = none := hs.symm
        have HK := Lib.hid (And.intro C (HP.out.2.2.2.trans (hb.mono HP.out.2.2.2.size)))
        clear C ho hs hb hp hB hNP hq hl
        go_wp2_with fail
        refine HK.out.1.mono ?_
        rintro r w5 ⟨rfl, rfl⟩
        unfold numE
        dsimp only [Option.getD, Option.isSome]
        go_wp2_with fail
        refine bodyPost_ret (v := .tuple #[.slice none 0 0, .bool false]) (by simp [results, Tryd.results27, go_sem]) rfl ⟨_, rfl, ownI_nil _ _, HK.out.2⟩
      | some m =>
        rw [numsP_cons hq, map_snoc] at hs
        rw [hq] at C
        obtain ⟨Q, hQ⟩ : ∃ Q : Int, (m : Int) = Q := ⟨_, rfl⟩
        have ho3 : OwnI (wr.alloc (.cells #[.int .i64 Q] 3)) w3.heap.size (natI l) u7 := ho.below (below_new _ _)
        have c3 : (wr.alloc (.cells #[.int .i64 Q] 3)).cell? ⟨wr.heap.size, 0, none⟩ = some (.int .i64 Q) := by rw [World.cell?_alloc_new]; rfl
        have b3 := below_lit hb (.cells #[.int .i64 Q] 3)
        have HL := Lib.hid (And.intro ho3 (And.intro c3 (And.intro b3 (And.intro hs (And.intro C hQ)))))
        clear C ho hs hb hp hB hNP hq ho3 c3 b3
        go_wp2_with fail
        refine HL.out.2.2.2.2.1.mono ?_
        rintro r w5 ⟨rfl, rfl⟩
        unfold numE
        dsimp only [Option.getD, Option.isSome]
        rw [hQ]
        clear hQ
        go_wp2_with (first
          | (at_builtin
             refine wpList_appI rfl (.tmp 49) (.tmp 51) rfl w3.heap.size _ (natI l) l.length (natI_len l) rfl HL.out.1 ⟨_, 0, none⟩ Q rfl HL.out.2.1 (by omega) HL.out.2.2.1.size ?_)
          | fail)
        intro g2 cp2 w6 h6 hb6
        have hend : ∃ (j' : Nat) (l' : List Nat), Value.int .i64 ((j : Int) + 1) = .int .i64 (j' : Int) ∧ j' ≤ P ∧ l'.length ≤ j' ∧ OwnI w6 w3.heap.size (natI l') (Value.slice (some ⟨g2, 0, none⟩) (l.length + 1) cp2) ∧ (numsP (PS.drop j')).map (l' ++ ·) = R ∧ Below w3.heap.size w3 w6 :=
          ⟨j + 1, l ++ [m], by simp, by omega, by simp; omega, by rw [natI_snoc, HL.out.2.2.2.2.2]; exact h6, HL.out.2.2.2.1, HL.out.2.2.1.trans hb6⟩
        have HEND := Lib.hid hend
        clear hend h6 hb6
        go_wp2_with fail
        go_roundw
        case rel => exact HEND.out
        case measure => simp [RowKit.intOf]; omega
end Go.Proofs.YtpimadgcojgjaaaDoor
