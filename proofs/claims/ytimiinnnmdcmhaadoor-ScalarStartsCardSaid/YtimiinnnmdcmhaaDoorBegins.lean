/-
  ScalarStarts: any byte is in the scalar that begins last of those that begin no later. The contract of scalar.Start, the walk of the law.
-/
import Derived.Test.YtimiinnnmdcmhaaDoorPlaces
namespace Go.Proofs.YtimiinnnmdcmhaaDoor
open Go.RowKit Go.Shelf
open Go.Lib

theorem rs_any (b : Nat) (h : b < 256) (w : World) : Calls Tryd.prog 56 #[.int .u8 b] w fun e w' => e = .returned (.bool (!decide (128 ≤ b ∧ b ≤ 191))) ∧ w' = w := by
  have c := Any.utf8_RuneStart Tryd.lays120 (b : Int) w (by omega) (by omega)
  have e : runeStart (b : Int) = !decide (128 ≤ b ∧ b ≤ 191) := by
    unfold runeStart
    by_cases q : 128 ≤ b ∧ b ≤ 191
    · rw [decide_eq_true q]
      have : (b : Int) / 64 = 2 := by omega
      rw [this]; rfl
    · rw [decide_eq_false q, bne_iff_ne.2 (by omega)]; rfl
  rw [e] at c
  exact c

set_option maxHeartbeats 1000000 in
/-- scalar.Start, outside. -/
theorem start_out (A : Option Addr) (n cap : Nat) (i : Int) (w : World) (h : i < 0 ∨ (n : Int) ≤ i) :
    Calls Tryd.prog 21 #[.slice A n cap, .int .i64 i] w fun e w' => e = .returned (.tuple #[.int .i64 0, .bool false]) ∧ w = w' := by
  by_cases h1 : i < 0
  · have d1 : decide (i < 0) = true := by simpa using h1
    clear h
    go_enter Tryd.func21, Tryd.ntmps21
    go_wp2
    go_ret2
    exact ⟨rfl, rfl⟩
  · have d1 : decide (i < 0) = false := by simpa using h1
    have h2 : (n : Int) ≤ i := by omega
    clear h
    go_enter Tryd.func21, Tryd.ntmps21
    go_wp2
    go_ret2
    exact ⟨rfl, rfl⟩

def StartPost (n : Nat) (f : Nat → Nat) (at_ : Nat) (w : World) (e : Ending) (w' : World) : Prop :=
  ∃ p : Nat, e = .returned (.tuple #[.int .i64 p, .bool true]) ∧ PlaceOf n f at_ p ∧ Below w.heap.size w w'

def StartRel (f : Nat → Nat) (at_ : Nat) (w : World) (i : Value) (wr : World) : Prop :=
  ∃ c : Nat, c ≤ 4 ∧ c ≤ at_ + 1 ∧ i = .int .i64 ((at_ : Int) - (c : Int)) ∧ (∀ j, at_ < j + c → j ≤ at_ → 128 ≤ f j ∧ f j ≤ 191) ∧ Below w.heap.size w wr
theorem fld (a b c d : Value) (w : World) : (Instr.field 78 (.agg #[a, b, c, d]) 2).run Tryd.prog w = .ok c w := by kernel_rfl

set_option maxHeartbeats 4000000 in
set_option maxRecDepth 100000 in
/-- scalar.Start, inside. -/
theorem start_in (b off n cap at_ : Nat) (f : Nat → Nat) (w : World) (hT : Tabs w) (hB : Bs w b off n f) (ha : at_ < n) (hc : n ≤ cap) (hm : cap ≤ maxLen) :
    Calls Tryd.prog 21 #[.slice (some ⟨b, off, none⟩) n cap, .int .i64 at_] w (StartPost n f at_ w) := by
  have h8 : ∀ j, j < n → f j < 256 := fun j hj => (hB j hj).2
  have hbl := hB.lt (by omega)
  have d1 : decide ((at_ : Int) < 0) = false := by simp
  have d2 : (at_ : Int) < (n : Int) := by omega
  have d3 : decide (n ≤ at_) = false := by simp; omega
  have HB := Lib.hid hB
  have HT := Lib.hid hT
  have H8 := Lib.hid h8
  have HM := Lib.hid hm
  unfold maxLen at hm
  clear hB hT h8
  have hfd := fld
  go_enter Tryd.func21, Tryd.ntmps21
  go_wp2
  go_loopw [6] (StartRel f at_ w) (fun i _ => ((RowKit.intOf i) + 1).toNat)
  case atStart => exact ⟨0, by omega, by omega, by simp, fun j a b => by omega, Below.refl _ _⟩
  case round =>
    obtain ⟨c, c4, ca, rfl, hcs, hb⟩ := hrel
    have HC := Lib.hid hcs
    clear hcs
    by_cases hgo : c < 4 ∧ c ≤ at_
    · obtain ⟨i, hi⟩ : ∃ i, at_ - c = i := ⟨_, rfl⟩
      have ei : (at_ : Int) - (c : Int) = (i : Int) := by omega
      rw [ei]
      have hin : i < n := by omega
      have hia : i ≤ at_ := by omega
      have hcell := (hb.cell (p := ⟨b, off + i, none⟩) hbl).trans (HB.out i hin).1
      have hf8 := (HB.out i hin).2
      have R := fun W => rs_any (f i) hf8 W
      have D := fun W (h1 : Tabs W) (h2 : Bs W b off n f) => dec_any b off n cap i f W h1 h2 hin hc HM.out
      have hsz : (pc (n - i) (fun j => f (i + j))).2.1 = (rd n f i).2.2.1 := rfl
      rw [hsz] at D
      obtain ⟨Sz, hSz⟩ : ∃ Sz, (rd n f i).2.2.1 = Sz := ⟨_, rfl⟩
      rw [hSz] at D
      have HSz := Lib.hid hSz
      generalize pc (n - i) (fun j => f (i + j)) = P at *
      obtain ⟨P1, P2, P3⟩ := P
      have D := Lib.hid D
      obtain ⟨x, hx⟩ : ∃ x, f i = x := ⟨_, rfl⟩
      rw [hx] at hcell hf8 R
      have HX := Lib.hid hx
      have HI := Lib.hid hi
      have e1 : (0 : Int) ≤ (i : Int) := by omega
      have e2 : (i : Int) < (n : Int) := by omega
      have e3 : (at_ : Int) - (i : Int) < 4 := by omega
      have e4 : (i : Int) ≤ (at_ : Int) := by omega
      clear hi hx hsz hSz ei
      by_cases hx : 128 ≤ x ∧ x ≤ 191
      · have R' : Hid (∀ W, Calls Tryd.prog 56 #[.int .u8 x] W fun e w' => e = .returned (.bool false) ∧ w' = W) := Lib.hid fun W => by
          have := R W
          rw [decide_eq_true hx] at this
          exact this
        have HXX := Lib.hid hx
        clear R hx
        go_wp2_with fail
        refine (R'.out _).mono ?_
        rintro e w1 ⟨rfl, rfl⟩
        go_wp2
        go_roundw
        case rel => exact ⟨c + 1, by omega, by omega, by congr 1; have := HI.out; omega, fun j a q => by
          rcases Nat.lt_or_ge (j + c) (at_ + 1) with h | h
          · have : j = i := by have := HI.out; omega
            rw [this, HX.out]
            exact HXX.out
          · exact HC.out j (by omega) q, hb⟩
        case measure => simp [RowKit.intOf]
      · have R' : Hid (∀ W, Calls Tryd.prog 56 #[.int .u8 x] W fun e w' => e = .returned (.bool true) ∧ w' = W) := Lib.hid fun W => by
          have := R W
          rw [decide_eq_false hx] at this
          exact this
        have HXX := Lib.hid hx
        clear R hx
        by_cases hs : at_ < i + Sz
        · have t : (at_ : Int) - (i : Int) < (Sz : Int) := by omega
          have HF := Lib.hid (place_i (f := f) H8.out ha hia (by rw [HX.out]; exact HXX.out) (by rw [HSz.out]; exact hs))
          clear hs
          go_wp2_with fail
          refine (R'.out _).mono ?_
          rintro e w1 ⟨rfl, rfl⟩
          go_wp2_with fail
          refine (D.out _ (HT.out.below hb HT.out.2) (HB.out.below hb hbl)).mono ?_
          rintro e w2 ⟨rfl, hb2⟩
          have hb3 := hb.trans (hb2.mono hb.size)
          clear hb hb2
          go_wp2
          go_ret2
          exact ⟨i, rfl, HF.out, hb3⟩
        · have t : ¬ (at_ : Int) - (i : Int) < (Sz : Int) := by omega
          have hF : PlaceOf n f at_ at_ := by
            by_cases c0 : c = 0
            · subst c0
              have hi0 : i = at_ := by have := HI.out; omega
              subst hi0
              obtain ⟨h1, _⟩ := rd_size n f hin
              have := HSz.out
              omega
            · refine place_at (f := f) H8.out ha c HC.out (.inr (.inr ⟨hgo.2, ?_, ?_⟩))
              · rw [HI.out, HX.out]; exact HXX.out
              · rw [HI.out, HSz.out]; have := HI.out; omega
          have HF := Lib.hid hF
          clear hF hs
          go_wp2_with fail
          refine (R'.out _).mono ?_
          rintro e w1 ⟨rfl, rfl⟩
          go_wp2_with fail
          refine (D.out _ (HT.out.below hb HT.out.2) (HB.out.below hb hbl)).mono ?_
          rintro e w2 ⟨rfl, hb2⟩
          have hb3 := hb.trans (hb2.mono hb.size)
          clear hb hb2
          go_wp2
          go_ret2
          exact ⟨at_, rfl, HF.out, hb3⟩
    · have HF := Lib.hid (place_at (f := f) H8.out ha c HC.out (by omega))
      by_cases g : c ≤ at_
      · have e1 : decide ((0 : Int) ≤ (at_ : Int) - (c : Int)) = true := by simp; omega
        have e2 : decide ((at_ : Int) - ((at_ : Int) - (c : Int)) < 4) = false := by simp; omega
        have e3 : (0 : Int) ≤ (at_ : Int) - (c : Int) := by omega
        have e4 : ¬ (at_ : Int) - ((at_ : Int) - (c : Int)) < 4 := by omega
        go_wp2
        go_ret2
        exact ⟨at_, rfl, HF.out, hb⟩
      · have e3 : ¬ (0 : Int) ≤ (at_ : Int) - (c : Int) := by omega
        have e1 : decide ((0 : Int) ≤ (at_ : Int) - (c : Int)) = false := by simp; omega
        go_wp2
        go_ret2
        exact ⟨at_, rfl, HF.out, hb⟩

/-- What the law's loop holds behind k places. -/
def lastP (n : Nat) (xs : List Rec) (K k : Nat) : Int := if k = 0 then -1 else (np n xs (min (k - 1) K) : Int)
theorem lastP_zero (n : Nat) (xs : List Rec) (K : Nat) : lastP n xs K 0 = -1 := rfl
theorem lastP_in {n : Nat} {xs : List Rec} {K k : Nat} (h : k ≤ K) : lastP n xs K (k + 1) = (np n xs k : Int) := by
  unfold lastP
  rw [if_neg (by omega), show min (k + 1 - 1) K = k from by omega]
theorem lastP_out {n : Nat} {xs : List Rec} {K k : Nat} (h : K < k) : lastP n xs K (k + 1) = lastP n xs K k := by
  unfold lastP
  rw [if_neg (by omega), if_neg (by omega), show min (k + 1 - 1) K = min (k - 1) K from by omega]

def LastRel (n : Nat) (xs : List Rec) (K N : Nat) (s i : Value) : Prop := ∃ k : Nat, k ≤ N ∧ i = .int .i64 k ∧ s = .int .i64 (lastP n xs K k)

set_option maxHeartbeats 4000000 in
set_option maxRecDepth 100000 in
theorem begins_walk (A : Option Addr) (n cap : Nat) (f : Nat → Nat) (at_ : Int) (w : World) (hT : Tabs w) (hS : Sl w w.heap.size A n cap f) :
    Calls Tryd.prog 5 #[.slice A n cap, .int .i64 at_] w fun e w' => e = .returned (.bool true) ∧ Below w.heap.size w w' := by
  have HT := Lib.hid hT
  have HS := Lib.hid hS
  have HA := Lib.hid awake_any
  clear hT hS
  by_cases hl : 300 < n
  · have d : (300 : Int) < (n : Int) := by omega
    have d' : decide ((300 : Int) < (n : Int)) = true := by simp; omega
    go_enter Tryd.func5, Tryd.ntmps5
    go_wp2_with fail
    refine (HA.out _ HT.out).mono ?_
    rintro e w1 ⟨rfl, hb⟩
    go_wp2
    go_ret
    exact ⟨rfl, hb⟩
  · have d : ¬ ((300 : Int) < (n : Int)) := by omega
    have d' : decide ((300 : Int) < (n : Int)) = false := by simp; omega
    by_cases ho : at_ < 0 ∨ (n : Int) ≤ at_
    · have C := Lib.hid fun W => start_out A n cap at_ W ho
      by_cases h1 : at_ < 0
      · have d1 : decide (at_ < 0) = true := by simpa using h1
        clear ho
        go_enter Tryd.func5, Tryd.ntmps5
        go_wp2_with fail
        refine (HA.out _ HT.out).mono ?_
        rintro e w1 ⟨rfl, hb⟩
        go_wp2_with fail
        refine (C.out _).mono ?_
        rintro e w2 ⟨rfl, rfl⟩
        go_wp2
        go_ret
        exact ⟨rfl, hb⟩
      · have d1 : decide (at_ < 0) = false := by simpa using h1
        have d2 : (n : Int) ≤ at_ := by omega
        clear ho
        go_enter Tryd.func5, Tryd.ntmps5
        go_wp2_with fail
        refine (HA.out _ HT.out).mono ?_
        rintro e w1 ⟨rfl, hb⟩
        go_wp2_with fail
        refine (C.out _).mono ?_
        rintro e w2 ⟨rfl, rfl⟩
        go_wp2
        go_ret
        exact ⟨rfl, hb⟩
    · obtain ⟨i, rfl⟩ := Int.eq_ofNat_of_zero_le (show 0 ≤ at_ by omega)
      have hi : i < n := by omega
      obtain ⟨b, off, rfl, hbl, hB⟩ := HS.out.2.2 (by omega)
      have C1 := Lib.hid fun W (h1 : Tabs W) (h : Bs W b off n f) => start_in b off n cap i f W h1 h hi HS.out.1 HS.out.2.1
      have C2 := Lib.hid fun W (h1 : Tabs W) (h2 : Sl W W.heap.size (some ⟨b, off, none⟩) n cap f) => (callsIn_wide (n := 8)).1 (starts_in 8 (by omega) (some ⟨b, off, none⟩) n cap f W h1 h2 (by omega))
      have C3 := Lib.hid fun W (h1 : Tabs W) (h : Bs W b off n f) p (hp : p < n) => next_in b off n cap p f W h1 h hp HS.out.1 HS.out.2.1
      have d1 : decide ((i : Int) < 0) = false := by simp
      have d2 : (i : Int) < (n : Int) := by omega
      have d3 : decide (n ≤ i) = false := by simp; omega
      have Tk : Hid (∀ W', Below w.heap.size w W' → Tabs W') := Lib.hid fun W' hb => HT.out.below hb HT.out.2
      have Bk : Hid (∀ W', Below w.heap.size w W' → Bs W' b off n f) := Lib.hid fun W' hb => hB.below hb hbl
      have Sk : Hid (∀ W', Below w.heap.size w W' → Sl W' W'.heap.size (some ⟨b, off, none⟩) n cap f) := Lib.hid fun W' hb =>
        ⟨HS.out.1, HS.out.2.1, fun _ => ⟨b, off, rfl, Nat.lt_of_lt_of_le hbl hb.size, hB.below hb hbl⟩⟩
      have hrl := rest_length n f
      have hm := HS.out.2.1
      unfold maxLen at hm
      clear ho hB
      go_enter Tryd.func5, Tryd.ntmps5
      go_wp2_with fail
      refine (HA.out _ HT.out).mono ?_
      rintro e w0 ⟨rfl, hb0⟩
      go_wp2_with fail
      refine (C1.out _ (Tk.out _ hb0) (Bk.out _ hb0)).mono ?_
      rintro e w1 ⟨p, rfl, ⟨K, x, hx, hxp, hp1, hp2⟩, hb1⟩
      have hb1' := hb0.trans (hb1.mono hb0.size)
      have ep : (p : Int) ≤ (i : Int) := by omega
      have HP := Lib.hid (And.intro hx (And.intro hxp hp2))
      clear hb0 hb1 hx hxp hp2
      go_wp2_with fail
      refine (C2.out _ (Tk.out _ hb1') (Sk.out _ hb1')).mono ?_
      rintro e w2 ⟨v, rfl, ho2, _, hb2⟩
      have hb2' := hb1'.trans (hb2.mono hb1'.size)
      have l2 : (places (rest n f 0)).length = (rest n f 0).length := by simp [places]
      have hKN := (List.getElem?_eq_some_iff.1 HP.out.1).1
      rw [l2] at ho2
      obtain ⟨m, hm'⟩ : ∃ m, (rest n f 0).length = m + 1 := ⟨(rest n f 0).length - 1, by omega⟩
      rw [hm'] at ho2
      obtain ⟨g, c2, rfl⟩ := ownsRow_succ ho2
      obtain ⟨N, hN⟩ : ∃ N, m + 1 = N := ⟨_, rfl⟩
      rw [hN] at hm' ho2 ⊢
      have O2 := Lib.hid fun k y (h : (rest n f 0)[k]? = some y) => own_cells1 ho2 (k := k) (v := .int .i64 y.2.1) (by have := (List.getElem?_eq_some_iff.1 h).1; omega) (by simp [places, h])
      have hN3 : N ≤ 300 := by omega
      have hKN' : K < N := by omega
      have HN := Lib.hid hm'
      clear l2 hm' ho2 hN hb1' hb2 hKN
      go_wp2_with fail
      go_loop [8, 9] (LastRel n (rest n f 0) K N) (fun _ j => N - (RowKit.intOf j).toNat)
      case atStart => exact ⟨0, by omega, rfl, rfl⟩
      case round =>
        obtain ⟨k, hk, rfl, rfl⟩ := hrel
        by_cases hlt : k < N
        · obtain ⟨y, hy⟩ : ∃ y, (rest n f 0)[k]? = some y := ⟨_, List.getElem?_eq_getElem (by have := HN.out; omega)⟩
          have q2 := O2.out k y hy
          have k1 : (k : Int) < (N : Int) := by omega
          have HY := Lib.hid hy
          have hyn := (rest_rd hy).2
          by_cases hKk : k ≤ K
          · have hle : y.2.1 ≤ i := by
              rcases Nat.lt_or_ge k K with q | q
              · have := rest_order hy (K - k - 1) x (by rw [show k + (K - k - 1) + 1 = K from by omega]; exact HP.out.1)
                have h3 := HP.out.2.1
                omega
              · obtain rfl : k = K := by omega
                have h3 := HP.out.1
                rw [hy] at h3
                injection h3 with h3
                have h4 := HP.out.2.1
                rw [h3]
                omega
            have E := Lib.hid (lastP_in (n := n) (xs := rest n f 0) hKk)
            have E2 := Lib.hid (np_at (len := n) hy)
            clear hy
            obtain ⟨y1, y2, y3, y4⟩ := y
            have t1 : (y2 : Int) ≤ (i : Int) := by have h : y2 ≤ i := hle; omega
            have t2 : y2 ≤ i := hle
            clear hle
            go_wp2
            go_round
            case rel => exact ⟨k + 1, by omega, by go_num, by rw [E.out, E2.out]⟩
            case measure => simp [RowKit.intOf]; omega
          · have hgt : i < y.2.1 := by
              have := rest_order HP.out.1 (k - K - 1) y (by rw [show K + (k - K - 1) + 1 = k from by omega]; exact hy)
              have h3 := HP.out.2.1
              have h4 := HP.out.2.2
              omega
            have E := Lib.hid (lastP_out (n := n) (xs := rest n f 0) (show K < k by omega))
            clear hy
            obtain ⟨y1, y2, y3, y4⟩ := y
            have t2 : ¬ y2 ≤ i := by have h : i < y2 := hgt; omega
            have t1 : (i : Int) < (y2 : Int) := by have h : i < y2 := hgt; omega
            clear hgt
            go_wp2
            go_round
            case rel => exact ⟨k + 1, by omega, by go_num, by rw [E.out]⟩
            case measure => simp [RowKit.intOf]; omega
        · obtain rfl : k = N := by omega
          obtain ⟨_, hxl⟩ := rest_rd HP.out.1
          have hpn : p < n := by have := HP.out.2.1; omega
          have hlast : lastP n (rest n f 0) K k = (p : Int) := by
            unfold lastP
            rw [if_neg (by omega), show min (k - 1) K = K from by omega, np_at HP.out.1, HP.out.2.1]
          rw [hlast]
          have D := C3.out _ (Tk.out _ hb2') (Bk.out _ hb2') p hpn
          have hsz : (pc (n - p) (fun j => f (p + j))).2.1 = x.2.2.1 := by
            have h1 := (rest_rd HP.out.1).1
            have h2 := HP.out.2.1
            rw [h2] at h1
            rw [h1]
            rfl
          rw [hsz] at D
          have hp2 := HP.out.2.2
          generalize (pc (n - p) (fun j => f (p + j))).1 = R at *
          generalize x.2.2.1 = Sz at *
          have D := Lib.hid D
          have t1 : (i : Int) - (p : Int) < (Sz : Int) := by omega
          have t2 : ((p : Int) == (p : Int)) = true := by simp
          clear hlast hsz hp2 hxl
          go_wp2_with fail
          refine D.out.mono ?_
          rintro e w3 ⟨rfl, hb3⟩
          have hbz := hb2'.trans (hb3.mono hb2'.size)
          clear hb3
          go_wp2
          go_ret
          exact ⟨rfl, hbz⟩
end Go.Proofs.YtimiinnnmdcmhaaDoor
