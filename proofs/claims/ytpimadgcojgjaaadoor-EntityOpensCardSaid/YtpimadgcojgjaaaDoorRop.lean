/-
  Contract: the document's Open.
-/
import Derived.Test.YtpimadgcojgjaaaDoorBgs
namespace Go.Proofs.YtpimadgcojgjaaaDoor
open Go.RowKit Go.Shelf Go.Lib Go.Maps Go.Great
theorem open_few : openZ (nats []) = false ∧ openZ (nats [38]) = true ∧ openZ (nats [38, 35]) = true ∧ openZ (nats [38, 35, 120]) = true ∧ openZ (nats [38, 35, 88]) = true := by decide
attribute [local irreducible] NR ZNR FR nmE NL

theorem numZ_nonneg {b most : Nat} {u : List Nat} : decide (0 ≤ numZ b most u) = (!u.isEmpty && (u.all (dgB b) && decide (u.length ≤ most))) := by
  rw [Bool.eq_iff_iff]
  simp only [decide_eq_true_eq, Bool.and_eq_true, List.all_eq_true]
  constructor
  · intro h
    obtain ⟨h1, h2, h3, _⟩ := numZ_ok h
    refine ⟨?_, h3, h2⟩
    cases u with
    | nil => exact absurd rfl h1
    | cons a r => rfl
  · rintro ⟨h1, h2, h3⟩
    have h0 : u ≠ [] := by rintro rfl; cases h1
    rw [numZ_eq h0 h3 h2]
    exact mnR_pos _
theorem nats_isEmpty (l : List UInt8) : (nats l).isEmpty = l.isEmpty := by cases l <;> rfl
theorem nmPre_nats (t : List UInt8) : nmPre (nats t) = nmE.any fun x => t.isPrefixOf x.1 := by
  unfold nmPre
  congr 1
  funext x
  rw [Bool.eq_iff_iff, List.isPrefixOf_iff_prefix, List.isPrefixOf_iff_prefix]
  constructor
  · rintro ⟨r, h⟩
    refine ⟨u8s r, ?_⟩
    have := congrArg u8s h
    rw [u8s_natsE] at this
    rw [← this]
    have e : u8s (nats t ++ r) = u8s (nats t) ++ u8s r := by simp [u8s]
    rw [e, u8s_natsE]
  · rintro ⟨r, h⟩
    exact ⟨nats r, by rw [← h, nats_app]⟩
/-- What openZ says behind the & and the names. -/
theorem openZ_x {X : UInt8} (hX : X.toNat = 120 ∨ X.toNat = 88) {e : List UInt8} (hn : nmPre (nats (35 :: X :: e)) = false) (he : e ≠ []) : openZ (nats (38 :: 35 :: X :: e)) = decide (0 ≤ numZ 16 6 (nats e)) := by
  rw [numZ_nonneg]
  show (nmPre (nats (35 :: X :: e)) || (opD (X.toNat :: nats e) || opH (X.toNat :: nats e))) = _
  rw [hn]
  have h1 : opD (X.toNat :: nats e) = false := by
    unfold opD
    rw [List.all_cons]
    have : dgB 10 X.toNat = false := by rcases hX with h | h <;> (rw [h]; decide)
    rw [this]
    rfl
  have h2 : (nats e).isEmpty = false := by
    rw [nats_isEmpty]
    cases e with
    | nil => exact absurd rfl he
    | cons a r => rfl
  rw [h1, h2]
  show (false || (false || ((X.toNat == 120 || X.toNat == 88) && ((nats e).all (dgB 16) && decide ((nats e).length ≤ 6))))) = _
  rcases hX with h | h <;> (rw [h]; simp)
theorem openZ_d {X : UInt8} (h1 : X.toNat ≠ 120) (h2 : X.toNat ≠ 88) {e : List UInt8} (hn : nmPre (nats (35 :: X :: e)) = false) : openZ (nats (38 :: 35 :: X :: e)) = decide (0 ≤ numZ 10 7 (nats (X :: e))) := by
  rw [numZ_nonneg]
  show (nmPre (nats (35 :: X :: e)) || (opD (nats (X :: e)) || opH (X.toNat :: nats e))) = _
  rw [hn]
  have h3 : opH (X.toNat :: nats e) = false := by
    show ((X.toNat == 120 || X.toNat == 88) && _) = false
    simp [h1, h2]
  rw [h3]
  simp [opD, nats]
theorem openZ_o {X : UInt8} (h1 : X.toNat ≠ 35) {e : List UInt8} (hn : nmPre (nats (X :: e)) = false) : openZ (nats (38 :: X :: e)) = false := by
  show (nmPre (nats (X :: e)) || opN (X.toNat :: nats e)) = false
  rw [hn]
  show opN (X.toNat :: nats e) = false
  unfold opN
  split
  · rename_i d h
    injection h with h3 h4
    exact absurd h3 h1
  · rfl
theorem openZ_a {a : UInt8} (h : a.toNat ≠ 38) (t : List UInt8) : openZ (nats (a :: t)) = false := by
  show openZ (a.toNat :: nats t) = false
  unfold openZ
  split
  · rename_i t' e
    injection e with e1 e2
    exact absurd e1 h
  · rfl
set_option maxHeartbeats 4000000 in
set_option maxRecDepth 100000 in
theorem refOpen_few (l : List UInt8) (h : l = [] ∨ l = [38] ∨ l = [38, 35] ∨ l = [38, 35, 120] ∨ l = [38, 35, 88]) (w : World) :
    Calls Tryd.prog 17 #[.string ⟨l.toArray⟩] w fun e w' => e = .returned (.bool (openZ (nats l))) ∧ Below w.heap.size w w' := by
  rcases h with rfl | rfl | rfl | rfl | rfl
  · have e := open_few.1
    rw [e]
    go_enter Tryd.func17, Tryd.ntmps17
    go_wp2_with fail
    go_ret
    exact ⟨by first | rfl | simp, Below.refl _ _⟩
  · have e := open_few.2.1
    rw [e]
    go_enter Tryd.func17, Tryd.ntmps17
    go_wp2_with fail
    go_ret
    exact ⟨by first | rfl | simp, Below.refl _ _⟩
  · have e := open_few.2.2.1
    rw [e]
    go_enter Tryd.func17, Tryd.ntmps17
    go_wp2_with fail
    go_ret
    exact ⟨by first | rfl | simp, Below.refl _ _⟩
  · have e := open_few.2.2.2.1
    rw [e]
    go_enter Tryd.func17, Tryd.ntmps17
    go_wp2_with fail
    go_ret
    exact ⟨by first | rfl | simp, Below.refl _ _⟩
  · have e := open_few.2.2.2.2
    rw [e]
    go_enter Tryd.func17, Tryd.ntmps17
    go_wp2_with fail
    go_ret
    exact ⟨by first | rfl | simp, Below.refl _ _⟩
set_option maxHeartbeats 8000000 in
set_option maxRecDepth 100000 in
theorem refOpen_any (l : List UInt8) (hl : l.length ≤ 1000) (w : World) :
    Calls Tryd.prog 17 #[.string ⟨l.toArray⟩] w fun e w' => e = .returned (.bool (openZ (nats l))) ∧ Below w.heap.size w w' := by
  by_cases hf : l = [] ∨ l = [38] ∨ l = [38, 35] ∨ l = [38, 35, 120] ∨ l = [38, 35, 88]
  · exact refOpen_few l hf w
  obtain ⟨SL, hSL⟩ : ∃ Sx : ByteArray, ⟨l.toArray⟩ = Sx := ⟨_, rfl⟩
  have hLL : SL.toList = l := by rw [← hSL]; simp
  have f0 : (SL.toList == []) = false := by rw [hLL, beq_eq_false_iff_ne]; exact fun e => hf (.inl e)
  have f1 : (SL.toList == [38]) = false := by rw [hLL, beq_eq_false_iff_ne]; exact fun e => hf (.inr (.inl e))
  have f2 : (SL.toList == [38, 35]) = false := by rw [hLL, beq_eq_false_iff_ne]; exact fun e => hf (.inr (.inr (.inl e)))
  have f3 : (SL.toList == [38, 35, 120]) = false := by rw [hLL, beq_eq_false_iff_ne]; exact fun e => hf (.inr (.inr (.inr (.inl e))))
  have f4 : (SL.toList == [38, 35, 88]) = false := by rw [hLL, beq_eq_false_iff_ne]; exact fun e => hf (.inr (.inr (.inr (.inr e))))
  have hpos : 0 < l.length := by
    cases l with
    | nil => exact absurd (.inl rfl) hf
    | cons a t => simp
  have ix0 := index_at l 0 hpos
  replace ix0 : ∀ w, (Instr.index 9 (.string ⟨l.toArray⟩) (.int .i64 0)).run Tryd.prog w = .ok (.int .u8 (((nats l).getD 0 0 : Nat) : Int)) w := ix0
  obtain ⟨c0, hc0⟩ : ∃ c, (nats l).getD 0 0 = c := ⟨_, rfl⟩
  rw [hc0, hSL] at ix0
  rw [hSL]
  obtain ⟨OZ, hOZ⟩ : ∃ b, openZ (nats l) = b := ⟨_, rfl⟩
  rw [hOZ]
  by_cases h38 : c0 = 38
  case neg =>
    have hz : OZ = false := by
      rw [← hOZ]
      cases l with
      | nil => simp at hpos
      | cons a t => exact openZ_a (by intro e; exact h38 (by rw [← hc0]; exact e)) t
    subst hz
    have d1 : ((c0 : Int) != 38) = true := by simp; omega
    clear hOZ hc0 hf hpos h38 hl hSL hLL
    go_enter Tryd.func17, Tryd.ntmps17
    go_wp2_with fail
    go_ret
    exact ⟨by first | rfl | simp, Below.refl _ _⟩
  case pos =>
  subst h38
  obtain ⟨t, ht⟩ : ∃ t, l = 38 :: t := by
    cases l with
    | nil => simp at hpos
    | cons a t =>
      have e : a.toNat = 38 := hc0
      have e2 : a = 38 := by
        have := congrArg UInt8.ofNat e
        simpa using this
      exact ⟨t, by rw [e2]⟩
  have b120 := fun W => begins_any l [38, 35, 120] (by omega) (by decide) W
  have b88 := fun W => begins_any l [38, 35, 88] (by omega) (by decide) W
  have b35 := fun W => begins_any l [38, 35] (by omega) (by decide) W
  rw [hSL] at b120 b88 b35
  have HH := Lib.hid (And.intro hOZ (And.intro hl (And.intro ht (And.intro hf (And.intro b120 (And.intro b88 (And.intro b35 hSL)))))))
  clear hOZ hc0 hf hpos hl b120 b88 b35 hSL hLL
  go_enter Tryd.func17, Tryd.ntmps17
  go_wp2_with fail
  refine (refNames_any w).mono ?_
  rintro e w1 ⟨rfl, hw1⟩
  have x1 : Cells w1 w.heap.size 39 NR := by rw [hw1]; exact cells_new _ _ _
  have hb1 : Below w.heap.size w w1 := by rw [hw1]; exact below_new _ _
  have H1 := Lib.hid (And.intro x1 hb1)
  clear x1 hb1 hw1 f0 f1 f2 f3 f4 ix0
  go_wp2_with fail
  go_loopw [4] (fun i wr => ∃ k : Nat, i = .int .i64 (k : Int) ∧ k ≤ 26 ∧ (∀ (j : Nat) (y : NmE), j < k → nmE[j]? = some y → t.isPrefixOf y.1 = false) ∧ wr = w1) (fun i _ => 26 - (RowKit.intOf i).toNat)
  case atStart => exact ⟨0, rfl, by omega, fun j y hj => absurd hj (by omega), rfl⟩
  case round =>
    obtain ⟨k, rfl, hk, hno, ew⟩ := hrel
    obtain rfl := ew.symm
    clear ew
    by_cases hlt : k < 26
    case pos =>
      have i1 : (k : Int) < 26 := by omega
      obtain ⟨x, hx⟩ := at_lt (l := nmE) (k := k) (by rw [nmE_len]; exact hlt)
      have hn := NR_at hx
      have c0 := H1.out.1.cell (k * 2)
      rw [hn.1] at c0
      have hlt1 := H1.out.1.lt
      have hsh := nm_short x (List.mem_of_getElem? hx)
      have hbe := begins_any (38 :: x.1) l (by simp; omega) (by have := HH.out.2.1; omega) w1
      have hpe : l.isPrefixOf (38 :: x.1) = t.isPrefixOf x.1 := by rw [HH.out.2.2.1]; simp [List.isPrefixOf]
      rw [hpe, HH.out.2.2.2.2.2.2.2] at hbe
      have g1 : (⟨#[38]⟩ : ByteArray) ++ ⟨x.1.toArray⟩ = ⟨(38 :: x.1).toArray⟩ := by apply ByteArray.ext; simp [ByteArray.data_append]
      have zs : (⟨x.1.toArray⟩ : ByteArray).size ≤ 100 := by simpa [ByteArray.size] using hsh
      have HX := Lib.hid (And.intro hx (And.intro hno hbe))
      clear hx hno hbe hpe hn hsh
      obtain ⟨s, z⟩ := x
      dsimp only at c0 g1 zs HX
      obtain ⟨S1, hS1⟩ : ∃ Sx : ByteArray, ⟨s.toArray⟩ = Sx := ⟨_, rfl⟩
      rw [hS1] at c0 g1 zs
      clear hS1
      go_wp2_with fail
      refine HX.out.2.2.mono ?_
      rintro e wx ⟨rfl, ex⟩
      obtain rfl := ex.symm
      clear ex
      cases hp : t.isPrefixOf s with
      | true =>
        have hz : OZ = true := by
          rw [← HH.out.1, HH.out.2.2.1]
          show (nmPre (nats t) || opN (nats t)) = true
          rw [nmPre_nats, Bool.or_eq_true]
          exact .inl (List.any_eq_true.2 ⟨(s, z), List.mem_of_getElem? HX.out.1, hp⟩)
        have HZ := Lib.hid hz
        clear hp hz
        go_wp2_with fail
        go_ret
        exact ⟨by rw [HZ.out]; rfl, H1.out.2⟩
      | false =>
        have HN := Lib.hid (fun (j : Nat) (y : NmE) (hj : j < k + 1) (hy : nmE[j]? = some y) => show t.isPrefixOf y.1 = false from by
          by_cases e : j = k
          · subst e
            have := hy.symm.trans HX.out.1
            injection this with this
            rw [this]
            exact hp
          · exact HX.out.2.1 j y (by omega) hy)
        clear hp
        go_wp2_with fail
        go_roundw
        case rel => exact ⟨k + 1, by go_num, by omega, HN.out, trivial⟩
        case measure => simp [RowKit.intOf]; omega
    case neg =>
      obtain rfl : k = 26 := by omega
      have hnp : nmPre (nats t) = false := by
        rw [nmPre_nats, List.any_eq_false]
        intro x hx
        obtain ⟨j, hj, e⟩ := List.getElem_of_mem hx
        rw [hno j x (by rw [nmE_len] at hj; exact hj) (by rw [List.getElem?_eq_getElem hj, e])]
        simp
      have HNP := Lib.hid hnp
      clear hno hnp
      have hf := HH.out.2.2.2.1
      cases t with
      | nil => exact absurd (.inr (.inl ht)) hf
      | cons a d =>
        by_cases ha : a = 35
        case neg =>
          have ha2 : a.toNat ≠ 35 := fun e => ha (by have := congrArg UInt8.ofNat e; simpa using this)
          have p1 : List.isPrefixOf [38, 35, 120] l = false := by rw [ht]; simp [List.isPrefixOf]; intro h; exact absurd h.symm ha
          have p2 : List.isPrefixOf [38, 35, 88] l = false := by rw [ht]; simp [List.isPrefixOf]; intro h; exact absurd h.symm ha
          have p3 : List.isPrefixOf [38, 35] l = false := by rw [ht]; simp [List.isPrefixOf]; intro h; exact absurd h.symm ha
          have hoz : OZ = false := by rw [← HH.out.1, HH.out.2.2.1]; exact openZ_o ha2 HNP.out
          have HK := Lib.hid hoz
          have K1 := HH.out.2.2.2.2.1 w1
          have K2 := HH.out.2.2.2.2.2.1 w1
          have K3 := HH.out.2.2.2.2.2.2.1 w1
          rw [p1] at K1
          rw [p2] at K2
          rw [p3] at K3
          have HKK := Lib.hid (And.intro K1 (And.intro K2 K3))
          clear hf ha ha2 p1 p2 p3 hoz ht K1 K2 K3
          go_wp2_with fail
          refine HKK.out.1.mono ?_
          rintro e wx ⟨rfl, ex⟩
          obtain rfl := ex.symm
          clear ex
          go_wp2_with fail
          refine HKK.out.2.1.mono ?_
          rintro e wx ⟨rfl, ex⟩
          obtain rfl := ex.symm
          clear ex
          go_wp2_with fail
          refine HKK.out.2.2.mono ?_
          rintro e wx ⟨rfl, ex⟩
          obtain rfl := ex.symm
          clear ex
          go_wp2_with fail
          go_ret
          exact ⟨by rw [HK.out]; rfl, H1.out.2⟩
        case pos =>
        subst ha
        cases d with
        | nil => exact absurd (.inr (.inr (.inl ht))) hf
        | cons X e =>
          by_cases hX : X = 120
          case pos =>
            subst hX
            have he : e ≠ [] := by rintro rfl; exact hf (.inr (.inr (.inr (.inl ht))))
            have p1 : List.isPrefixOf [38, 35, 120] l = true := by rw [ht]; simp [List.isPrefixOf]
            have K1 := HH.out.2.2.2.2.1 w1
            rw [p1] at K1
            have hsl := slice_str_l l 3 (by rw [HH.out.2.2.1]; simp)
            replace hsl : ∀ w, (Instr.slice 9 (.string SL) (some (.int .i64 3)) none none).run Tryd.prog w = .ok (.string ⟨(l.drop 3).toArray⟩) w := fun w => by rw [← HH.out.2.2.2.2.2.2.2]; exact hsl w
            obtain ⟨SE, hSE⟩ : ∃ Sx : ByteArray, ⟨(l.drop 3).toArray⟩ = Sx := ⟨_, rfl⟩
            obtain ⟨Z, hZ⟩ : ∃ z, numZ 16 6 (nats (l.drop 3)) = z := ⟨_, rfl⟩
            have KN : Calls Tryd.prog 38 #[.string SE, .int .i64 16, .int .i64 6] w1 fun e w' => e = .returned (.int .i32 Z) ∧ w' = w1 := by
              rw [← hSE, ← hZ]
              exact refNumber_any (b := 16) (most := 6) (.inr rfl) (by decide) (l.drop 3) (by have := HH.out.2.1; rw [List.length_drop]; omega) w1
            rw [hSE] at hsl
            have hoz : OZ = decide (0 ≤ Z) := by
              rw [← HH.out.1, ← hZ, HH.out.2.2.1]
              exact openZ_x (X := 120) (.inl rfl) HNP.out he
            have HK := Lib.hid (And.intro KN hoz)
            clear KN hoz hSE hZ

            have HKK := Lib.hid K1
            clear hf he p1 ht K1
            go_wp2_with fail
            refine HKK.out.mono ?_
            rintro e wx ⟨rfl, ex⟩
            obtain rfl := ex.symm
            clear ex
            go_wp2_with fail
            refine HK.out.1.mono ?_
            rintro e wx ⟨rfl, ex⟩
            obtain rfl := ex.symm
            clear ex
            go_wp2_with fail
            go_ret
            exact ⟨by rw [HK.out.2]; rfl, H1.out.2⟩

          case neg =>
          have p1 : List.isPrefixOf [38, 35, 120] l = false := by rw [ht]; simp [List.isPrefixOf]; intro h; exact absurd h.symm hX
          by_cases hY : X = 88
          case pos =>
            subst hY
            have he : e ≠ [] := by rintro rfl; exact hf (.inr (.inr (.inr (.inr ht))))
            have p2 : List.isPrefixOf [38, 35, 88] l = true := by rw [ht]; simp [List.isPrefixOf]
            have K1 := HH.out.2.2.2.2.1 w1
            rw [p1] at K1
            have K2 := HH.out.2.2.2.2.2.1 w1
            rw [p2] at K2
            have hsl := slice_str_l l 3 (by rw [HH.out.2.2.1]; simp)
            replace hsl : ∀ w, (Instr.slice 9 (.string SL) (some (.int .i64 3)) none none).run Tryd.prog w = .ok (.string ⟨(l.drop 3).toArray⟩) w := fun w => by rw [← HH.out.2.2.2.2.2.2.2]; exact hsl w
            obtain ⟨SE, hSE⟩ : ∃ Sx : ByteArray, ⟨(l.drop 3).toArray⟩ = Sx := ⟨_, rfl⟩
            obtain ⟨Z, hZ⟩ : ∃ z, numZ 16 6 (nats (l.drop 3)) = z := ⟨_, rfl⟩
            have KN : Calls Tryd.prog 38 #[.string SE, .int .i64 16, .int .i64 6] w1 fun e w' => e = .returned (.int .i32 Z) ∧ w' = w1 := by
              rw [← hSE, ← hZ]
              exact refNumber_any (b := 16) (most := 6) (.inr rfl) (by decide) (l.drop 3) (by have := HH.out.2.1; rw [List.length_drop]; omega) w1
            rw [hSE] at hsl
            have hoz : OZ = decide (0 ≤ Z) := by
              rw [← HH.out.1, ← hZ, HH.out.2.2.1]
              exact openZ_x (X := 88) (.inr rfl) HNP.out he
            have HK := Lib.hid (And.intro KN hoz)
            clear KN hoz hSE hZ

            have HKK := Lib.hid (And.intro K1 K2)
            clear hf he p1 p2 ht K1 K2
            go_wp2_with fail
            refine HKK.out.1.mono ?_
            rintro e wx ⟨rfl, ex⟩
            obtain rfl := ex.symm
            clear ex
            go_wp2_with fail
            refine HKK.out.2.mono ?_
            rintro e wx ⟨rfl, ex⟩
            obtain rfl := ex.symm
            clear ex
            go_wp2_with fail
            refine HK.out.1.mono ?_
            rintro e wx ⟨rfl, ex⟩
            obtain rfl := ex.symm
            clear ex
            go_wp2_with fail
            go_ret
            exact ⟨by rw [HK.out.2]; rfl, H1.out.2⟩

          case neg =>
          have p2 : List.isPrefixOf [38, 35, 88] l = false := by rw [ht]; simp [List.isPrefixOf]; intro h; exact absurd h.symm hY
          have p3 : List.isPrefixOf [38, 35] l = true := by rw [ht]; simp [List.isPrefixOf]
          have hX2 : X.toNat ≠ 120 := fun e => hX (by have := congrArg UInt8.ofNat e; simpa using this)
          have hY2 : X.toNat ≠ 88 := fun e => hY (by have := congrArg UInt8.ofNat e; simpa using this)
          have K1 := HH.out.2.2.2.2.1 w1
          rw [p1] at K1
          have K2 := HH.out.2.2.2.2.2.1 w1
          rw [p2] at K2
          have K3 := HH.out.2.2.2.2.2.2.1 w1
          rw [p3] at K3
          have hsl := slice_str_l l 2 (by rw [HH.out.2.2.1]; simp)
          replace hsl : ∀ w, (Instr.slice 9 (.string SL) (some (.int .i64 2)) none none).run Tryd.prog w = .ok (.string ⟨(l.drop 2).toArray⟩) w := fun w => by rw [← HH.out.2.2.2.2.2.2.2]; exact hsl w
          obtain ⟨SE, hSE⟩ : ∃ Sx : ByteArray, ⟨(l.drop 2).toArray⟩ = Sx := ⟨_, rfl⟩
          obtain ⟨Z, hZ⟩ : ∃ z, numZ 10 7 (nats (l.drop 2)) = z := ⟨_, rfl⟩
          have KN : Calls Tryd.prog 38 #[.string SE, .int .i64 10, .int .i64 7] w1 fun e w' => e = .returned (.int .i32 Z) ∧ w' = w1 := by
            rw [← hSE, ← hZ]
            exact refNumber_any (b := 10) (most := 7) (.inl rfl) (by decide) (l.drop 2) (by have := HH.out.2.1; rw [List.length_drop]; omega) w1
          rw [hSE] at hsl
          have hoz : OZ = decide (0 ≤ Z) := by
            rw [← HH.out.1, ← hZ, HH.out.2.2.1]
            exact openZ_d hX2 hY2 HNP.out
          have HK := Lib.hid (And.intro KN hoz)
          clear KN hoz hSE hZ

          have HKK := Lib.hid (And.intro K1 (And.intro K2 K3))
          clear hf p1 p2 p3 ht K1 K2 K3 hX hY hX2 hY2
          go_wp2_with fail
          refine HKK.out.1.mono ?_
          rintro e wx ⟨rfl, ex⟩
          obtain rfl := ex.symm
          clear ex
          go_wp2_with fail
          refine HKK.out.2.1.mono ?_
          rintro e wx ⟨rfl, ex⟩
          obtain rfl := ex.symm
          clear ex
          go_wp2_with fail
          refine HKK.out.2.2.mono ?_
          rintro e wx ⟨rfl, ex⟩
          obtain rfl := ex.symm
          clear ex
          go_wp2_with fail
          refine HK.out.1.mono ?_
          rintro e wx ⟨rfl, ex⟩
          obtain rfl := ex.symm
          clear ex
          go_wp2_with fail
          go_ret
          exact ⟨by rw [HK.out.2]; rfl, H1.out.2⟩

end Go.Proofs.YtpimadgcojgjaaaDoor
