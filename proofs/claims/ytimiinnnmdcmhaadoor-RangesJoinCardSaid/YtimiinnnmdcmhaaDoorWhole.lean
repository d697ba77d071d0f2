/-
  ScalarAll: of any bytes All, Starts, Count and Valid are the document's pieces: their scalars, where each begins, how many there are, and whether each is whole. The walk of the law.
-/
import Derived.Test.YtimiinnnmdcmhaaDoorRefAll
namespace Go.Proofs.YtimiinnnmdcmhaaDoor
open Go.RowKit Go.Shelf
open Go.Lib

/-- Where the k-th scalar begins; behind the last one: the end. -/
def np (len : Nat) (xs : List Rec) (k : Nat) : Nat := match xs[k]? with | some x => x.2.1 | none => len
theorem np_at {len : Nat} {xs : List Rec} {k : Nat} {x : Rec} (h : xs[k]? = some x) : np len xs k = x.2.1 := by unfold np; rw [h]
theorem np_end {len : Nat} {xs : List Rec} {k : Nat} (h : xs.length ≤ k) : np len xs k = len := by unfold np; rw [List.getElem?_eq_none h]
theorem np_zero (len : Nat) (f : Nat → Nat) {i : Nat} (h : i ≤ len) : np len (rest len f i) 0 = i := by
  by_cases c : i < len
  · rw [rest_cons len f c]; rfl
  · rw [rest_end len f (by omega)]
    show len = i
    omega
theorem np_cons (len : Nat) (x : Rec) (xs : List Rec) (k : Nat) : np len (x :: xs) (k + 1) = np len xs k := by unfold np; rw [List.getElem?_cons_succ]
theorem np_succ (len : Nat) (f : Nat → Nat) (m : Nat) : ∀ (i k : Nat) (x : Rec), len - i ≤ m → i ≤ len → (rest len f i)[k]? = some x → x.2.1 + x.2.2.1 = np len (rest len f i) (k + 1) := by
  induction m with
  | zero =>
    intro i k x hm hi h
    rw [rest_end len f (by omega)] at h
    simp at h
  | succ m ih =>
    intro i k x hm hi h
    by_cases c : i < len
    · have hs := rd_size len f c
      rw [rest_cons len f c] at h ⊢
      rw [np_cons]
      cases k with
      | zero =>
        rw [np_zero len f hs.2]
        rw [List.getElem?_cons_zero] at h
        injection h with h
        rw [← h]
        rfl
      | succ k =>
        rw [List.getElem?_cons_succ] at h
        exact ih _ k x (by omega) hs.2 h
    · rw [rest_end len f (by omega)] at h
      simp at h

theorem rest_mem (len : Nat) (f : Nat → Nat) (m : Nat) : ∀ (i k : Nat) (x : Rec), len - i ≤ m → (rest len f i)[k]? = some x → x = rd len f x.2.1 ∧ x.2.1 < len := by
  induction m with
  | zero =>
    intro i k x hm h
    rw [rest_end len f (by omega)] at h
    simp at h
  | succ m ih =>
    intro i k x hm h
    by_cases c : i < len
    · have hs := rd_size len f c
      rw [rest_cons len f c] at h
      cases k with
      | zero =>
        rw [List.getElem?_cons_zero] at h
        injection h with h
        rw [← h]
        exact ⟨rfl, c⟩
      | succ k =>
        rw [List.getElem?_cons_succ] at h
        exact ih _ k x (by omega) h
    · rw [rest_end len f (by omega)] at h
      simp at h
theorem rest_le (len : Nat) (f : Nat → Nat) (k : Nat) (x : Rec) (h : (rest len f 0)[k]? = some x) : x.2.1 + x.2.2.1 ≤ len := by
  obtain ⟨e, hl⟩ := rest_mem len f len 0 k x (by omega) h
  have := (rd_size len f hl).2
  rw [← e] at this
  exact this

theorem take_all (xs : List Rec) (k : Nat) (x : Rec) (h : xs[k]? = some x) : ((xs.take (k + 1)).all fun y => y.2.2.2) = (((xs.take k).all fun y => y.2.2.2) && x.2.2.2) := by
  rw [List.take_add_one, h]
  simp

/-- What the loop reads of the k-th piece. -/
theorem own_cells1 {w : World} {base e n g cap : Nat} {xs : List Value} (h : w.ownsRow base e 1 (.slice (some ⟨g, 0, none⟩) n cap) n xs) {k : Nat} {v : Value} (hk : k < n) (hv : xs[k]? = some v) : w.cell? ⟨g, k, none⟩ = some v := by
  rw [h.cellAt k (by omega), hv]

set_option maxHeartbeats 4000000 in
set_option maxRecDepth 100000 in
theorem whole_walk (A : Option Addr) (n cap : Nat) (f : Nat → Nat) (w : World) (hT : Tabs w) (hS : Sl w w.heap.size A n cap f) :
    Calls Tryd.prog 4 #[.slice A n cap] w fun e w' => e = .returned (.bool true) ∧ Below w.heap.size w w' := by
  have HT := Lib.hid hT
  have HS := Lib.hid hS
  have HA := Lib.hid awake_any
  clear hT hS
  by_cases hl : 300 < n
  · have d : (300 : Int) < (n : Int) := by omega
    have d' : decide ((300 : Int) < (n : Int)) = true := by simp; omega
    go_enter Tryd.func4, Tryd.ntmps4
    go_wp2_with fail
    refine (HA.out _ HT.out).mono ?_
    rintro e w1 ⟨rfl, hb⟩
    go_wp2
    go_ret
    exact ⟨rfl, hb⟩
  · have d : ¬ ((300 : Int) < (n : Int)) := by omega
    have d' : decide ((300 : Int) < (n : Int)) = false := by simp; omega
    have C1 := Lib.hid fun W (h1 : Tabs W) (h2 : Sl W W.heap.size A n cap f) => (callsIn_wide (n := 8)).1 (all_in 8 (by omega) A n cap f W h1 h2 (by omega))
    have C2 := Lib.hid fun W (h1 : Tabs W) (h2 : Sl W W.heap.size A n cap f) => (callsIn_wide (n := 8)).1 (starts_in 8 (by omega) A n cap f W h1 h2 (by omega))
    have C3 := Lib.hid fun W (h2 : Sl W W.heap.size A n cap f) => refall_any A n cap f W h2 (by omega)
    have C4 := Lib.hid fun W (h1 : Tabs W) (h2 : Sl W W.heap.size A n cap f) => (callsIn_wide (n := 8)).1 (count_in 8 (by omega) A n cap f W h1 h2 (by omega))
    have C5 := Lib.hid fun W (h1 : Tabs W) (h2 : Sl W W.heap.size A n cap f) => (callsIn_wide (n := 8)).1 (valid_in 8 (by omega) A n cap f W h1 h2)
    have hrl := rest_length n f
    have hnp0 := np_zero n f (i := 0) (by omega)
    have hnps := fun k x => np_succ n f n 0 k x (by omega) (by omega)
    have hrle := rest_le n f
    obtain ⟨xs, hxs⟩ : ∃ xs, rest n f 0 = xs := ⟨_, rfl⟩
    rw [hxs] at C1 C2 C3 C4 C5 hrl hnp0 hnps hrle
    have HLE := Lib.hid hrle
    clear hrle
    have HN0 := Lib.hid hnp0
    have HNS := Lib.hid hnps
    clear hxs hnp0 hnps
    have Tk : Hid (∀ W', Below w.heap.size w W' → Tabs W') := Lib.hid fun W' hb => HT.out.below hb HT.out.2
    have Sk : Hid (∀ W', Below w.heap.size w W' → Sl W' W'.heap.size A n cap f) := Lib.hid fun W' hb => by
      have h := HS.out.below hb
      exact ⟨h.1, h.2.1, fun hn => by obtain ⟨b, off, rfl, hlt, hB⟩ := h.2.2 hn; exact ⟨b, off, rfl, Nat.lt_of_lt_of_le hlt hb.size, hB⟩⟩
    go_enter Tryd.func4, Tryd.ntmps4
    go_wp2_with fail
    refine (HA.out _ HT.out).mono ?_
    rintro e w0 ⟨rfl, hb0⟩
    go_wp2_with fail
    refine (C1.out _ (Tk.out _ hb0) (Sk.out _ hb0)).mono ?_
    rintro e w1 ⟨v1, rfl, ho1, hn1, hb1⟩
    have hb1' := hb0.trans (hb1.mono hb0.size)
    go_wp2_with fail
    refine (C2.out _ (Tk.out _ hb1') (Sk.out _ hb1')).mono ?_
    rintro e w2 ⟨v2, rfl, ho2, hn2, hb2⟩
    have hb2' := hb1'.trans (hb2.mono hb1'.size)
    go_wp2_with fail
    refine (C3.out _ (Sk.out _ hb2')).mono ?_
    rintro e w3 ⟨v3, rfl, ho3, hn3, hb3⟩
    have hb3' := hb2'.trans (hb3.mono hb2'.size)
    have N1 := Lib.hid hn1
    have N2 := Lib.hid hn2
    have N3 := Lib.hid hn3
    clear hn1 hn2 hn3
    have l1 : (runes xs).length = xs.length := by simp [runes]
    have l2 : (places xs).length = xs.length := by simp [places]
    rw [l1] at ho1
    rw [l2] at ho2
    have ho1' := ownsRow_below (ownsRow_below ho1 hb2) hb3
    have ho2' := ownsRow_below ho2 hb3
    clear l1 l2 ho1 ho2 hb1 hb2 hb3 hb1' hb2' hb0
    rcases xs with _ | ⟨x0, xr⟩
    · have hn0 : n = 0 := by
        have h := HN0.out
        rw [np_end (by simp)] at h
        exact h
      obtain rfl := N1.out.2 rfl
      obtain rfl := N2.out.2 rfl
      obtain rfl := N3.out.2 rfl
      subst hn0
      clear ho1' ho2' ho3 N1 N2 N3
      go_wp2_with fail
      refine (C4.out _ (Tk.out _ hb3') (Sk.out _ hb3')).mono ?_
      rintro e w4 ⟨rfl, hb4⟩
      have hb4' := hb3'.trans (hb4.mono hb3'.size)
      have HB := Lib.hid hb4'
      clear hb3' hb4 hb4'
      go_wp2_with fail
      go_loopw [6, 7, 8] (fun a v i wr => i = .int .i64 0 ∧ a = .int .i64 0 ∧ v = .bool true ∧ wr = w4) (fun _ _ _ _ => 0)
      case atStart => exact ⟨rfl, rfl, rfl, rfl⟩
      case round =>
        obtain ⟨rfl, rfl, rfl, rfl⟩ := hrel
        have hbz := HB.out
        go_wp2_with fail
        refine (C5.out _ (Tk.out _ hbz) (Sk.out _ hbz)).mono ?_
        rintro e w5 ⟨rfl, hb5⟩
        have hb6 := hbz.trans (hb5.mono hbz.size)
        clear hb5 hbz
        go_wp2
        go_ret
        exact ⟨rfl, hb6⟩
    · clear N1 N2 N3
      obtain ⟨xs, hxs⟩ : ∃ xs, x0 :: xr = xs := ⟨_, rfl⟩
      have hpos : xs.length = xr.length + 1 := by rw [← hxs]; rfl
      rw [hxs] at ho1' ho2' ho3 hrl C4 C5 HN0 HNS HLE
      rw [hpos] at ho1' ho2' ho3
      obtain ⟨g1, c1, rfl⟩ := ownsRow_succ ho1'
      obtain ⟨g2, c2, rfl⟩ := ownsRow_succ ho2'
      obtain ⟨g3, c3, rfl⟩ := ownsRow_succ ho3
      obtain ⟨N, hN⟩ : ∃ N, xr.length + 1 = N := ⟨_, rfl⟩
      rw [hN] at hpos ho1' ho2' ho3
      rw [hpos] at C4
      rw [hN]
      go_wp2_with fail
      refine (C4.out _ (Tk.out _ hb3') (Sk.out _ hb3')).mono ?_
      rintro e w4 ⟨rfl, hb4⟩
      have hb4' := hb3'.trans (hb4.mono hb3'.size)
      have ho1 := ownsRow_below ho1' hb4
      have ho2 := ownsRow_below ho2' hb4
      have ho3' := ownsRow_below ho3 hb4
      have O1 := Lib.hid fun k x (h : xs[k]? = some x) => own_cells1 ho1 (k := k) (v := .int .i32 x.1) (by have := (List.getElem?_eq_some_iff.1 h).1; omega) (by simp [runes, h])
      have O2 := Lib.hid fun k x (h : xs[k]? = some x) => own_cells1 ho2 (k := k) (v := .int .i64 x.2.1) (by have := (List.getElem?_eq_some_iff.1 h).1; omega) (by simp [places, h])
      have O3 := Lib.hid fun k x (h : xs[k]? = some x) => cells3_get xs k x h
      have O3' := Lib.hid fun k (h : k < N * 3) => ho3'.cellAt k h
      have hm := HS.out.2.1
      have HP := Lib.hid hpos
      have HB := Lib.hid hb4'
      have hrl' : N ≤ 300 := by omega
      clear ho1' ho2' ho3 ho1 ho2 ho3' hxs hN hpos hb3' hb4 hb4' hrl
      go_wp2_with fail
      go_loopw [6, 7, 8] (fun a v i wr => ∃ (k q : Nat), k ≤ N ∧ i = .int .i64 k ∧ a = .int .i64 (np n xs k) ∧ v = .bool ((xs.take k).all fun y => y.2.2.2) ∧ wr = w4.drewN q) (fun _ _ i _ => N - (RowKit.intOf i).toNat)
      case atStart => exact ⟨0, 0, by omega, rfl, by rw [HN0.out]; rfl, by simp, rfl⟩
      case round =>
        obtain ⟨k, q, hk, rfl, rfl, rfl, rfl⟩ := hrel
        by_cases hlt : k < N
        · obtain ⟨x, hx⟩ : ∃ x, xs[k]? = some x := ⟨xs[k]'(by have := HP.out; omega), List.getElem?_eq_getElem _⟩
          have q1 := O1.out k x hx
          have q2 := O2.out k x hx
          obtain ⟨r1, r2, r3⟩ := O3.out k x hx
          have p1 := (O3'.out (k * 3) (by omega)).trans r1
          have p2 := (O3'.out (k * 3 + 1) (by omega)).trans r2
          have p3 := (O3'.out (k * 3 + 2) (by omega)).trans r3
          have hnp : np n xs k = x.2.1 := np_at hx
          have HNP := Lib.hid (HNS.out k x hx)
          have HTK := Lib.hid (take_all xs k x hx)
          have HX := Lib.hid (HLE.out k x hx)
          rw [hnp]
          have k1 : (k : Int) < (N : Int) := by omega
          have k0 : (0 : Int) ≤ (k : Int) := by omega
          clear hx hnp r1 r2 r3
          obtain ⟨x1, x2, x3, x4⟩ := x
          obtain ⟨V, hV⟩ : ∃ V, ((xs.take k).all fun y => y.2.2.2) = V := ⟨_, rfl⟩
          rw [hV]
          have HVV := Lib.hid hV
          clear hV
          have hb2 : x2 + x3 ≤ n := HX.out
          have hn3 : n ≤ 300 := by omega
          go_wp2_with fail
          go_quiet (fail)
          cases V
          · go_wp2
            go_roundw
            case rel => exact ⟨k + 1, _, by omega, by go_num, by rw [← HNP.out]; go_num, by rw [HTK.out, HVV.out]; rfl, rfl⟩
            case measure => simp [RowKit.intOf]; omega
          · go_wp2
            go_roundw
            case rel => exact ⟨k + 1, _, by omega, by go_num, by rw [← HNP.out]; go_num, by rw [HTK.out, HVV.out]; rfl, rfl⟩
            case measure => simp [RowKit.intOf]; omega
        · have hkN : k = N := by omega
          subst hkN
          have e1 : np n xs k = n := np_end (by have := HP.out; omega)
          have e2 : xs.take k = xs := List.take_of_length_le (by have := HP.out; omega)
          rw [e1, e2]
          obtain ⟨V, hV⟩ : ∃ V, (xs.all fun y => y.2.2.2) = V := ⟨_, rfl⟩
          rw [hV] at C5 ⊢
          clear e1 e2 hV
          have hbz := HB.out
          have hbq := below_drewN hbz q
          go_wp2_with fail
          refine (C5.out _ (Tk.out _ hbq) (Sk.out _ hbq)).mono ?_
          rintro e w5 ⟨rfl, hb5⟩
          have hb6 := hbq.trans (hb5.mono hbq.size)
          clear hb5 hbq hbz
          cases V
          · go_wp2
            go_ret
            exact ⟨rfl, hb6⟩
          · go_wp2
            go_ret
            exact ⟨rfl, hb6⟩
end Go.Proofs.YtimiinnnmdcmhaaDoor
