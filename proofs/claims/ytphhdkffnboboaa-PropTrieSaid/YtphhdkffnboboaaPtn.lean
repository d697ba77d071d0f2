/-
  PropClasses: any number's class. Contracts: virguleref04.Class; the walk of the law.
  The law TrieGets: any number's class; or why there is no trie.
  Arguments that are lists of entries and of numbers; the law TrieGets with what the row gives.
  The law PropTrie: the trie tells the class of any numbers.
-/
import Derived.Test.YtphhdkffnboboaaPtg
import Derived.Test.YtphhdkffnboboaaPtj
import Derived.Test.YtphhdkffnboboaaPtl
import Derived.BigQuiet
import Derived.Lib.QuietBelow
import Derived.Test.YtphhdkffnboboaaPtm
import Derived.WalkKit
import Derived.ProofKit
import Derived.OpenShut
import Derived.JoinedTies
import Derived.Deep.SlicePairs
namespace Go.Proofs.Ytphhdkffnboboaa
open Go.RowKit Go.Shelf
open Go.Lib

theorem find_range (p : Nat → Bool) (k n : Nat) (hk : k < n) (h1 : ∀ j, j < k → p j = false) (h2 : p k = true) : (List.range n).find? p = some k := by
  rw [List.find?_range_eq_some]
  exact ⟨h2, List.mem_range.2 hk, fun j hj => by simp [h1 j hj]⟩
theorem find_range_none (p : Nat → Bool) (n : Nat) (h1 : ∀ j, j < n → p j = false) : (List.range n).find? p = none := by
  rw [List.find?_eq_none]
  intro j hj
  rw [h1 j (List.mem_range.1 hj)]
  simp

set_option maxHeartbeats 2000000 in
theorem rclass_any (r : Int) (w : World) (hr0 : -2147483648 ≤ r) (hr1 : r ≤ 2147483647) :
    Calls Try.prog 29 #[.int .i32 r] w fun e w' => e = .returned (.int .i64 (classF r : Nat)) ∧ Below w.heap.size w w' := by
  by_cases hlv : 44032 ≤ r ∧ r ≤ 55203
  · have e : classF r = if (r - 44032) % 28 = 0 then 14 else 15 := by unfold classF; rw [if_pos hlv]
    obtain ⟨h1, h2⟩ := hlv
    rw [e]
    clear e
    by_cases cm : (r - 44032) % 28 = 0
    · rw [if_pos cm]
      have d : (((r - 44032) % 28 : Int) == 0) = true := by simpa using cm
      clear cm
      go_enter Try.func29, Try.ntmps29
      go_wp2
      go_ret
      exact ⟨rfl, Below.refl _ _⟩
    · rw [if_neg cm]
      have d : (((r - 44032) % 28 : Int) == 0) = false := by simpa using cm
      clear cm
      go_enter Try.func29, Try.ntmps29
      go_wp2
      go_ret
      exact ⟨rfl, Below.refl _ _⟩
  · have e : classF r = ((List.range 36).find? fun c => hasR (refList c) r).getD 0 := by unfold classF; rw [if_neg hlv]
    obtain ⟨N, hN⟩ : ∃ N, classF r = N := ⟨_, rfl⟩
    rw [hN] at e ⊢
    have HN := Lib.hid e
    clear e hN
    have C := Lib.hid list_any
    have CI := Lib.hid (fun A cap xs W (h : RS W W.heap.size A cap xs) => in_any A cap xs r hr0 hr1 W h)
    have main : Calls Try.prog 29 #[.int .i32 r] w fun e w' => e = .returned (.int .i64 (N : Int)) ∧ Below w.heap.size w w' := by
      rcases (show r < 44032 ∨ (44032 ≤ r ∧ 55203 < r) by omega) with h1 | ⟨h1, h2⟩
      all_goals
        first
        | have d1 : decide ((44032 : Int) ≤ r) = false := by simpa using h1
        | have d2 : decide (r ≤ (55203 : Int)) = false := by simpa using h2
        go_enter Try.func29, Try.ntmps29
        go_wp2
        go_loopw [3] (fun c wr => ∃ k : Nat, c = .int .i64 k ∧ 1 ≤ k ∧ k ≤ 36 ∧ Hid (∀ j, j < k → hasR (refList j) r = false) ∧ Below w.heap.size w wr) (fun c _ => 36 - (RowKit.intOf c).toNat)
        case atStart => exact ⟨1, rfl, Nat.le_refl _, by omega, (fun j hj => by obtain rfl : j = 0 := by omega
                                                                                rfl : ∀ j, j < 1 → hasR (refList j) r = false), Below.refl _ _⟩
        case round =>
          obtain ⟨k, rfl, hk1, hk2, hF, hb⟩ := hrel
          by_cases hlt : k < 36
          · have i1 : (k : Int) ≤ 35 := by omega
            have C1 := Lib.hid (C.out k (by omega) hlt wr)
            obtain ⟨M, hM⟩ : ∃ M, hasR (refList k) r = M := ⟨_, rfl⟩
            have HM := Lib.hid hM
            clear hM
            go_wp2_with fail
            refine C1.out.mono ?_
            rintro e w1 ⟨A1, c1, rfl, hS, hb1⟩
            have C2 := CI.out A1 c1 (refList k) w1 hS.r
            rw [HM.out] at C2
            have C2 := Lib.hid C2
            have hb2 := hb.trans (hb1.mono hb.size)
            clear hS hb hb1
            go_wp2_with fail
            refine C2.out.mono ?_
            rintro e w2 ⟨rfl, rfl⟩
            cases M
            · go_wp2
              go_roundw
              case rel => exact ⟨k + 1, by go_num, by omega, by omega, (fun j hj => by
                  by_cases c : j < k
                  · exact hF.out j c
                  · obtain rfl : j = k := by omega
                    exact HM.out : ∀ j, j < k + 1 → hasR (refList j) r = false), hb2⟩
              case measure => simp [RowKit.intOf]; omega
            · have hq : N = k := by rw [HN.out, find_range _ k 36 hlt hF.out HM.out]; rfl
              have HQ := Lib.hid hq
              clear hq
              go_wp2
              go_ret
              exact ⟨by rw [HQ.out]; rfl, hb2⟩
          · have hkn : k = 36 := by omega
            subst hkn
            have hq : N = 0 := by rw [HN.out, find_range_none _ 36 hF.out]; rfl
            have HQ := Lib.hid hq
            clear hq
            go_wp2
            go_ret
            exact ⟨by rw [HQ.out]; rfl, hb⟩
    exact main

set_option maxHeartbeats 1000000 in
theorem classes_walk (r : Int) (hr0 : -2147483648 ≤ r) (hr1 : r ≤ 2147483647) (w : World) : Calls Try.prog 8 #[.int .i32 r] w fun e w' => e = .returned (.bool true) ∧ Below w.heap.size w w' := by
  have C1 := Lib.hid (fun W => class_any r W hr0 hr1)
  have C2 := (fun W => rclass_any r W hr0 hr1)
  rw [← class_eq r] at C2
  have C2 := Lib.hid C2
  generalize classR r = N at C1 C2
  go_enter Try.func8, Try.ntmps8
  go_wp2_with fail
  refine (C1.out _).mono ?_
  rintro e w1 ⟨rfl, hb1⟩
  go_wp2_with fail
  refine (C2.out _).mono ?_
  rintro e w2 ⟨rfl, hb⟩
  have hb2 := hb1.trans (hb.mono hb1.size)
  clear hb hb1
  go_wp2_with fail
  refine (awake_any _).mono ?_
  rintro e w3 ⟨rfl, hb⟩
  have hb3 := hb2.trans (hb.mono hb2.size)
  clear hb hb2
  go_wp2
  go_ret
  exact ⟨rfl, hb3⟩
end Go.Proofs.Ytphhdkffnboboaa

namespace Go.Proofs.Ytphhdkffnboboaa
open Go.RowKit Go.Shelf
open Go.Lib Go.Great Go.Maps

/-- Numbers one behind the other. -/
def RnS (w : World) (B : Nat) (A : Option Addr) (rs : List Int) : Prop := (∀ r ∈ rs, -2147483648 ≤ r ∧ r ≤ 2147483647) ∧ (rs ≠ [] → ∃ b o, A = some ⟨b, o, none⟩ ∧ b < B ∧ ∀ i r, rs[i]? = some r → w.cell? ⟨b, o + i, none⟩ = some (.int .i32 r))
theorem same2_any (l l' : List En) (h : same2 l l') : l.any wrongE = l'.any wrongE := by
  have e : ∀ l : List En, l.any wrongE = (l.map (fun e => (e.xs, e.c))).any (fun p => !cls p.2 || !right p.1) := fun l => by rw [List.any_map]; rfl
  rw [e, e, h]
theorem same2_fold (l l' : List En) (h : same2 l l') (i : Int) (o : Int) : l.foldl (fun v e => if hasR e.xs i then e.c else v) o = l'.foldl (fun v e => if hasR e.xs i then e.c else v) o := by
  have e : ∀ (l : List En) (o : Int), l.foldl (fun v e => if hasR e.xs i then e.c else v) o = (l.map (fun e => (e.xs, e.c))).foldl (fun v p => if hasR p.1 i then p.2 else v) o := fun l => by
    induction l with
    | nil => intro o; rfl
    | cons x xs ih => intro o; rw [List.foldl_cons, List.map_cons, List.foldl_cons]; exact ih _
  rw [e, e, h]
theorem getE_in (o : Int) (es : List En) (i : Int) (h0 : 0 ≤ i) (h1 : i ≤ 1114111) : getE o es i = es.foldl (fun v e => if hasR e.xs i then e.c else v) o := by
  unfold getE hitE
  simp [h0, h1]
theorem getE_out (o : Int) (es : List En) (i : Int) (h : i < 0 ∨ 1114111 < i) : getE o es i = o := by
  unfold getE hitE
  have e : ∀ e : En, (hasR e.xs i && decide (0 ≤ i) && decide (i ≤ 1114111)) = false := fun e => by
    rcases h with h | h
    · have : decide (0 ≤ i) = false := by simp; omega
      simp [this]
    · have : decide (i ≤ 1114111) = false := by simp; omega
      simp [this]
  induction es with
  | nil => rfl
  | cons x xs ih => rw [List.foldl_cons, e, if_neg (by simp)]; exact ih
/-- What the trie tells is what the document's answer tells. -/
theorem get_agree {o : Int} {es es' : List En} {F : Nat → Int} (hs : same2 es' es) (hF : ∀ i : Nat, i < 1114112 → F i = es'.foldl (fun v e => if hasR e.xs i then e.c else v) o) (r : Int) : (if r < 0 ∨ 1114111 < r then o else F r.toNat) = getE o es r := by
  by_cases c : r < 0 ∨ 1114111 < r
  · rw [if_pos c, getE_out o es r c]
  · rw [if_neg c]
    obtain ⟨a, rfl⟩ := Int.eq_ofNat_of_zero_le (show 0 ≤ r by omega)
    rw [getE_in o es _ (by omega) (by omega), Int.toNat_natCast, hF a (by omega)]
    exact same2_fold es' es hs _ o

set_option maxHeartbeats 4000000 in
set_option maxRecDepth 100000 in
theorem tgets_any (o : Int) (A : Option Addr) (cap : Nat) (es : List En) (AR : Option Addr) (capR : Nat) (rs : List Int) (w : World) (h : ES w w.heap.size A cap es) (hr : RnS w w.heap.size AR rs) (hrl : rs.length ≤ 9223372036854775807) :
    Calls Try.prog 3 #[.int .i64 o, .slice A es.length cap, .slice AR rs.length capR] w fun e w' => e = .returned (.bool true) ∧ Below w.heap.size w w' := by
  have T := Lib.hid taw_any
  have G := Lib.hid (great_any A cap es w h)
  have HE := Lib.hid h
  have HRS := Lib.hid hr
  obtain ⟨n, hn⟩ : ∃ n, es.length = n := ⟨_, rfl⟩
  obtain ⟨m, hm⟩ : ∃ m, rs.length = m := ⟨_, rfl⟩
  have HN := Lib.hid (And.intro hn hm)
  rw [hm] at hrl
  rw [hn, hm]
  rw [hn] at G
  obtain ⟨q, hq⟩ : ∃ q, greatE es = q := ⟨_, rfl⟩
  have HQ := Lib.hid hq
  rw [hq] at G
  have G := Lib.hid G.out
  clear h hr hn hm hq
  cases q with
  | true =>
    go_enter Try.func3, Try.ntmps3
    go_wp2_with fail
    refine G.out.mono ?_
    rintro e w1 ⟨rfl, rfl⟩
    go_wp2_with fail
    refine (T.out _).mono ?_
    rintro e w2 ⟨rfl, hb⟩
    go_wp2_with fail
    go_ret
    exact ⟨rfl, hb⟩
  | false =>
    by_cases hlong : 40 < m
    · have i1 : (40 : Int) < (m : Int) := by omega
      go_enter Try.func3, Try.ntmps3
      go_wp2_with fail
      refine G.out.mono ?_
      rintro e w1 ⟨rfl, rfl⟩
      go_wp2_with fail
      refine (T.out _).mono ?_
      rintro e w2 ⟨rfl, hb⟩
      go_wp2_with fail
      go_ret
      exact ⟨rfl, hb⟩
    · have i1 : ¬ (40 : Int) < (m : Int) := by omega
      have d1 : decide ((40 : Int) < (m : Int)) = false := by simp; omega
      have hg : es.length ≤ 12 ∧ ∀ e ∈ es, e.xs.length ≤ 12 := by
        have := HQ.out
        unfold greatE at this
        rw [Bool.or_eq_false_iff] at this
        have h12 : es.length ≤ 12 := by have := this.2; simp at this; omega
        refine ⟨h12, fun e he => ?_⟩
        have h1 := this.1
        rw [List.take_of_length_le h12, List.any_eq_false] at h1
        have := h1 e he
        simp at this
        omega
      have HG := Lib.hid hg
      clear hg hlong
      go_enter Try.func3, Try.ntmps3
      go_wp2_with fail
      refine G.out.mono ?_
      rintro e w1 ⟨rfl, rfl⟩
      go_wp2_with fail
      refine (T.out _).mono ?_
      rintro e w2 ⟨rfl, hb⟩
      have C := Lib.hid (lawto_any A cap es w2 ((HE.out.below hb).mono hb.size) HG.out.1 HG.out.2)
      have HB := Lib.hid hb
      rw [HN.out.1] at C
      have C := Lib.hid C.out
      clear hb
      go_wp2_with fail
      refine C.out.mono ?_
      rintro e w3 ⟨A3, c3, es3, rfl, hl3, hs3, hES3, hF3, hb3⟩
      have hN := new_any o A3 c3 es3 w3 hES3 hF3 (by have := HG.out.1; have := HN.out.1; omega) (fun e he => by
        have : (e.xs, e.c) ∈ es.map (fun e => (e.xs, e.c)) := by rw [← hs3]; exact List.mem_map.2 ⟨e, he, rfl⟩
        obtain ⟨e', he', hee⟩ := List.mem_map.1 this
        simp only [Prod.mk.injEq] at hee
        rw [← hee.1]
        have := HG.out.2 e' he'
        omega)
      have e3 : es3.length = n := hl3
      rw [e3] at hN
      have NW := Lib.hid hN
      have hbz := HB.out.trans (hb3.mono HB.out.size)
      have HB := Lib.hid hbz
      have HS3 := Lib.hid hs3
      clear hbz hb3 hs3 hES3 hF3 hl3 hN e3
      go_wp2_with fail
      refine NW.out.mono ?_
      rintro e w4 ⟨hb4, hp⟩
      have hbz := HB.out.trans (hb4.mono HB.out.size)
      have HB := Lib.hid hbz
      have MY := Lib.hid (lawmay_any o A cap es w4 ((HE.out.below hbz).mono hbz.size))
      rw [mayE_wrong, ← same2_any _ _ HS3.out, HN.out.1] at MY
      have MY := Lib.hid MY.out
      clear hbz hb4
      by_cases hok : (cls o && !es3.any wrongE) = true
      · rw [if_pos hok] at hp
        rw [hok] at MY
        have MY := Lib.hid MY.out
        obtain ⟨T1, F, rfl, hF, hFi, hT1⟩ := hp
        have HT := Lib.hid (And.intro hT1 (And.intro hF hFi))
        clear hok hT1 hF hFi
        go_wp2_with fail
        refine MY.out.mono ?_
        rintro e w5 ⟨rfl, hb5⟩
        have hbz := HB.out.trans (hb5.mono HB.out.size)
        have hT5 := HT.out.1.below hb5
        have H5 := Lib.hid (And.intro hbz hT5)
        clear hbz hT5 hb5
        go_wp2_with fail
        go_loopw [9] (fun i wr => ∃ k : Nat, i = .int .i64 (k : Int) ∧ k ≤ m ∧ Below w5.heap.size w5 wr) (fun i _ => m - (RowKit.intOf i).toNat)
        case atStart => exact ⟨0, rfl, Nat.zero_le _, Below.refl _ _⟩
        case round =>
          obtain ⟨k, rfl, hk, hb⟩ := hrel
          by_cases hlt : k < m
          · obtain ⟨r, hr⟩ : ∃ r, rs[k]? = some r := ⟨rs[k]'(by rw [HN.out.2]; exact hlt), List.getElem?_eq_getElem _⟩
            obtain ⟨b, o', rfl, hbl, hE⟩ := HRS.out.2 (by intro e; rw [e] at hr; simp at hr)
            have hrb := HRS.out.1 r (List.mem_of_getElem? hr)
            have q1 := hE k r hr
            have j1 : (k : Int) < (m : Int) := by omega
            have HX := Lib.hid (get_agree HS3.out HT.out.2.2 r)
            have HBW := Lib.hid (H5.out.1.trans (hb.mono H5.out.1.size))
            have HB5 := Lib.hid hb
            have HRB := Lib.hid hrb
            clear hE hr hb hrb
            go_wp2_with fail
            have HQW := Lib.hid (show Below w1.heap.size w1 wr.drew from HBW.out.drew)
            have CG := Lib.hid (get_any T1 o F r wr.drew ((H5.out.2.below HB5.out).below (Below.refl _ wr).drew) HT.out.2.1 HRB.out.1 HRB.out.2)
            rw [HX.out] at CG
            have CG := Lib.hid CG.out
            refine wp_region_noPanic ?_
            refine wp_region_held_drew (S := fun W => Below w1.heap.size w1 W) (by kernel_rfl) HQW.out (fun hH => ?_)
            refine wpAnyH_take (i := 0) (oi := { dst := some 45, op := Op.move (Operand.tmp 7), type := 26, pos := "law.go:57", after := #[], guard := none }) (v := ?_) rfl (by kernel_rfl) (by kernel_rfl) (by kernel_rfl) (fun _ _ _ h => h) (Or.inl ⟨by rfl, ?_⟩) (by exact hH) ?_
            rotate_left
            · intro W hSw
              go_simp
              try with_reducible rfl
            try simp only [Act.put, List.setIfInBounds_toArray, List.set_cons_zero, List.set_cons_succ]
            refine wpAnyH_take (i := 1) (oi := { dst := some 46, op := Op.move (Operand.tmp 2), type := 23, pos := "law.go:57", after := #[], guard := none }) (v := ?_) rfl (by kernel_rfl) (by kernel_rfl) (by kernel_rfl) (fun _ _ _ h => h) (Or.inl ⟨by rfl, ?_⟩) (by exact hH) ?_
            rotate_left
            · intro W hSw
              go_simp
              try with_reducible rfl
            try simp only [Act.put, List.setIfInBounds_toArray, List.set_cons_zero, List.set_cons_succ]
            refine wpAnyH_take (i := 2) (oi := { dst := some 47, op := Op.move (Operand.tmp 9), type := 3, pos := "law.go:57", after := #[], guard := none }) (v := ?_) rfl (by kernel_rfl) (by kernel_rfl) (by kernel_rfl) (fun _ _ _ h => h) (Or.inl ⟨by rfl, ?_⟩) (by exact hH) ?_
            rotate_left
            · intro W hSw
              go_simp
              try with_reducible rfl
            try simp only [Act.put, List.setIfInBounds_toArray, List.set_cons_zero, List.set_cons_succ]
            refine wpAnyH_take (i := 3) (oi := { dst := some 48, op := Op.indexAddr 23 (Operand.tmp 46) (Operand.tmp 47), type := 0, pos := "law.go:57", after := #[{ on := 1, ground := Ground.data }, { on := 2, ground := Ground.data }], guard := none }) (v := ?_) rfl (by kernel_rfl) (by kernel_rfl) (by kernel_rfl) (fun _ _ _ h => h) (Or.inl ⟨by rfl, ?_⟩) (by exact hH) ?_
            rotate_left
            · intro W hSw
              go_simp
              try with_reducible rfl
            try simp only [Act.put, List.setIfInBounds_toArray, List.set_cons_zero, List.set_cons_succ]
            refine wpAnyH_take (i := 4) (oi := { dst := some 49, op := Op.load 21 (Operand.tmp 48), type := 21, pos := "law.go:57", after := #[{ on := 3, ground := Ground.data }], guard := none }) (v := ?_) rfl (by kernel_rfl) (by kernel_rfl) (by kernel_rfl) (fun _ _ _ h => h) (Or.inl ⟨by rfl, ?_⟩) (by exact hH) ?_
            rotate_left
            · intro W hSw
              have p := (hSw.cell (p := ⟨b, o' + k, none⟩) hbl).trans q1
              go_simp
              try with_reducible rfl
            try simp only [Act.put, List.setIfInBounds_toArray, List.set_cons_zero, List.set_cons_succ]
            refine wpAnyH_take (i := 6) (oi := { dst := some 51, op := Op.move (Operand.tmp 0), type := 3, pos := "law.go:57", after := #[], guard := none }) (v := ?_) rfl (by kernel_rfl) (by kernel_rfl) (by kernel_rfl) (fun _ _ _ h => h) (Or.inl ⟨by rfl, ?_⟩) (by exact hH) ?_
            rotate_left
            · intro W hSw
              go_simp
              try with_reducible rfl
            try simp only [Act.put, List.setIfInBounds_toArray, List.set_cons_zero, List.set_cons_succ]
            refine wpAnyH_take (i := 7) (oi := { dst := some 52, op := Op.move (Operand.tmp 1), type := 22, pos := "law.go:57", after := #[], guard := none }) (v := ?_) rfl (by kernel_rfl) (by kernel_rfl) (by kernel_rfl) (fun _ _ _ h => h) (Or.inl ⟨by rfl, ?_⟩) (by exact hH) ?_
            rotate_left
            · intro W hSw
              go_simp
              try with_reducible rfl
            try simp only [Act.put, List.setIfInBounds_toArray, List.set_cons_zero, List.set_cons_succ]
            refine wpAnyH_take (i := 8) (oi := { dst := some 53, op := Op.move (Operand.tmp 2), type := 23, pos := "law.go:57", after := #[], guard := none }) (v := ?_) rfl (by kernel_rfl) (by kernel_rfl) (by kernel_rfl) (fun _ _ _ h => h) (Or.inl ⟨by rfl, ?_⟩) (by exact hH) ?_
            rotate_left
            · intro W hSw
              go_simp
              try with_reducible rfl
            try simp only [Act.put, List.setIfInBounds_toArray, List.set_cons_zero, List.set_cons_succ]
            refine wpAnyH_take (i := 9) (oi := { dst := some 54, op := Op.move (Operand.tmp 9), type := 3, pos := "law.go:57", after := #[], guard := none }) (v := ?_) rfl (by kernel_rfl) (by kernel_rfl) (by kernel_rfl) (fun _ _ _ h => h) (Or.inl ⟨by rfl, ?_⟩) (by exact hH) ?_
            rotate_left
            · intro W hSw
              go_simp
              try with_reducible rfl
            try simp only [Act.put, List.setIfInBounds_toArray, List.set_cons_zero, List.set_cons_succ]
            refine wpAnyH_take (i := 10) (oi := { dst := some 55, op := Op.indexAddr 23 (Operand.tmp 53) (Operand.tmp 54), type := 0, pos := "law.go:57", after := #[{ on := 8, ground := Ground.data }, { on := 9, ground := Ground.data }], guard := none }) (v := ?_) rfl (by kernel_rfl) (by kernel_rfl) (by kernel_rfl) (fun _ _ _ h => h) (Or.inl ⟨by rfl, ?_⟩) (by exact hH) ?_
            rotate_left
            · intro W hSw
              go_simp
              try with_reducible rfl
            try simp only [Act.put, List.setIfInBounds_toArray, List.set_cons_zero, List.set_cons_succ]
            refine wpAnyH_take (i := 11) (oi := { dst := some 56, op := Op.load 21 (Operand.tmp 55), type := 21, pos := "law.go:57", after := #[{ on := 10, ground := Ground.data }], guard := none }) (v := ?_) rfl (by kernel_rfl) (by kernel_rfl) (by kernel_rfl) (fun _ _ _ h => h) (Or.inl ⟨by rfl, ?_⟩) (by exact hH) ?_
            rotate_left
            · intro W hSw
              have p := (hSw.cell (p := ⟨b, o' + k, none⟩) hbl).trans q1
              go_simp
              try with_reducible rfl
            try simp only [Act.put, List.setIfInBounds_toArray, List.set_cons_zero, List.set_cons_succ]
            refine wpAnyH_ready (rs := [5]) (by kernel_rfl) (by simp) ?_
            refine AllReadyH.cons (o := { dst := some 50, op := Op.call { callee := Callee.value (Operand.func 18), args := #[Operand.tmp 45, Operand.tmp 49], argTypes := #[26, 21] }, type := 3, pos := "law.go:57", after := #[{ on := 0, ground := Ground.data }, { on := 4, ground := Ground.data }], guard := none }) rfl (fun K hK => ?_) AllReadyH.nil
            go_simp
            go_at_call 18
            refine CG.out.mono ?_
            rintro e w6 ⟨rfl, hb6⟩
            have HB6 := Lib.hid (HQW.out.trans (hb6.mono HQW.out.size))
            have HB56 := Lib.hid ((HB5.out.drew).trans (hb6.mono HB5.out.size))
            have CR := Lib.hid (rget_any o A cap es r w6 ((HE.out.below HB6.out).mono HB6.out.size) HRB.out.1 HRB.out.2)
            rw [HN.out.1] at CR
            have CR := Lib.hid CR.out
            clear hb6
            go_wp2_with fail
            refine hK.out _ _ HB6.out (fun hH => ?_)
            clear hK K
            try simp only [Act.put, List.setIfInBounds_toArray, List.set_cons_zero, List.set_cons_succ]
            refine wpAnyH_ready (rs := [12]) (by kernel_rfl) (by simp) ?_
            refine AllReadyH.cons (o := { dst := some 57, op := Op.call { callee := Callee.value (Operand.func 19), args := #[Operand.tmp 51, Operand.tmp 52, Operand.tmp 56], argTypes := #[3, 22, 21] }, type := 3, pos := "law.go:57", after := #[{ on := 6, ground := Ground.data }, { on := 7, ground := Ground.data }, { on := 11, ground := Ground.data }, { on := 5, ground := Ground.chain }], guard := none }) rfl (fun K hK => ?_) AllReadyH.nil
            go_simp
            go_at_call 19
            refine CR.out.mono ?_
            rintro e w7 ⟨rfl, rfl⟩
            go_wp2_with fail
            refine hK.out _ _ HB6.out (fun hH => ?_)
            clear hK K
            try simp only [Act.put, List.setIfInBounds_toArray, List.set_cons_zero, List.set_cons_succ]
            refine wpAnyH_take (i := 13) (oi := { dst := some 58, op := Op.binOp BinOp.neq 3 (Operand.tmp 50) (Operand.tmp 57) 3, type := 4, pos := "law.go:57", after := #[{ on := 5, ground := Ground.data }, { on := 12, ground := Ground.data }], guard := none }) (v := ?_) rfl (by kernel_rfl) (by kernel_rfl) (by kernel_rfl) (fun _ _ _ h => h) (Or.inl ⟨by rfl, ?_⟩) (by exact hH) ?_
            rotate_left
            · intro W hSw
              go_simp
              try with_reducible rfl
            try simp only [Act.put, List.setIfInBounds_toArray, List.set_cons_zero, List.set_cons_succ]
            refine wpAnyH_done (by kernel_rfl) ?_ _
            refine NoPanic.normal ?_
            have hbz := HB56.out
            go_wp2_with fail
            go_roundw
            case rel => exact ⟨k + 1, by go_num, by omega, hbz⟩
            case measure => simp [RowKit.intOf]; omega
          · have j1 : ¬ (k : Int) < (m : Int) := by omega
            have j2 : decide ((k : Int) < (m : Int)) = false := by simp; omega
            have hbz := H5.out.1.trans (hb.mono H5.out.1.size)
            go_wp2_with fail
            go_ret
            exact ⟨rfl, hbz⟩
      · rw [if_neg hok] at hp
        have hok : (cls o && !es3.any wrongE) = false := by simpa using hok
        rw [hok] at MY
        have MY := Lib.hid MY.out
        subst hp
        clear hok
        go_wp2_with fail
        refine MY.out.mono ?_
        rintro e w5 ⟨rfl, hb5⟩
        have hbz := HB.out.trans (hb5.mono HB.out.size)
        go_wp2_with fail
        go_ret
        exact ⟨rfl, hbz⟩
end Go.Proofs.Ytphhdkffnboboaa

namespace Go.Proofs.Ytphhdkffnboboaa
open Go.ChangeShapes Go.WideShapes Go.ChangeAt Go.RowKit Go.Shelf
open Go.Lib

set_option maxRecDepth 100000 in
theorem rs_of_trod {H : Type} {enc : TypeId × Value → H} {W : World} {n : Nat} {v : Value} {x : DataW H × List MemPlace} (hf : DataW.trod enc Try.prog W 0 (fun _ => true) true n 36 [v] = some x) :
    ∃ A c xs, v = .slice A (List.length xs) c ∧ RS W W.heap.size A c xs := by
  rcases Go.Deep.open_slice_pairs Try.underlying36 Try.underlying40 (by kernel_rfl) rfl rfl (by kernel_rfl) (by kernel_rfl) hf with ⟨hcs, _⟩ | ⟨x, len, c, m, n, V0, V1, D0, D1, P0, P1, hcs, _, hl, hm, hmm, _, hcell⟩
  · simp at hcs
    exact ⟨none, 0, [], hcs, by refine ⟨Nat.le_refl _, Nat.zero_le _, by simp, fun h => absurd rfl h⟩⟩
  · simp at hcs
    have hlm : len ≤ m := by rw [hmm]; simpa using hl
    have hint : ∀ i, i < len → ∃ q : Int × Int, V0 i = .int .i32 q.1 ∧ V1 i = .int .i32 q.2 ∧ I32 q := fun i hi => by
      obtain ⟨_, _, h0, h1⟩ := hcell i (by omega)
      obtain ⟨z0, e0, _, w0⟩ := DataW.trod_int Try.underlying21 h0
      obtain ⟨z1, e1, _, w1⟩ := DataW.trod_int Try.underlying21 h1
      have b0 : -2147483648 ≤ z0 ∧ z0 ≤ 2147483647 := by simpa [Lit.wf, IntKind.min, IntKind.max, IntKind.signed, IntKind.bits] using w0
      have b1 : -2147483648 ≤ z1 ∧ z1 ≤ 2147483647 := by simpa [Lit.wf, IntKind.min, IntKind.max, IntKind.signed, IntKind.bits] using w1
      exact ⟨(z0, z1), by simpa using e0, by simpa using e1, by unfold I32; exact ⟨b0.1, b0.2, b1.1, b1.2⟩⟩
    obtain ⟨q, hq⟩ := Go.Deep.choose_lt hint
    have hlen : ((List.range len).map q).length = len := by simp
    refine ⟨some x, c, (List.range len).map q, by rw [hlen]; exact hcs, ⟨by rw [hlen]; exact hl, hm, fun y hy => ?_, fun hn => ?_⟩⟩
    · obtain ⟨i, hi, rfl⟩ := List.mem_map.1 hy
      exact (hq i (List.mem_range.1 hi)).2.2
    · have h0 : 0 < len := by
        rcases Nat.eq_zero_or_pos len with e | e
        · subst e; exact absurd rfl hn
        · exact e
      have hc := (hcell 0 (by omega)).1
      obtain ⟨b, off, spot⟩ := x
      have hspot : spot = none := by simpa [Addr.add] using World.cell?_spot hc
      subst hspot
      have hc0 : W.cell? ⟨b, off, none⟩ = some (V0 0) := by simpa [Addr.add] using hc
      refine ⟨b, off, rfl, cell_lt hc0, fun i y hy => ?_⟩
      have hi : i < len := by have := (List.getElem?_eq_some_iff.1 hy).1; omega
      simp [hi] at hy
      subst hy
      obtain ⟨c0, c1, _, _⟩ := hcell i (by omega)
      obtain ⟨e0, e1, _⟩ := hq i hi
      rw [Addr.add_lit] at c0 c1
      rw [← e0, ← e1]
      exact ⟨c0, by rw [Nat.add_assoc]; exact c1⟩

set_option maxRecDepth 100000 in
theorem entries_of_arg {H : Type} {enc : TypeId × Value → H} {W : World} {b0 : Nat} {v : Value} {d : DataW H} {p : List MemPlace} (hv : Value.okWide Try.prog W .any b0 22 v) (h : DataW.Trod enc Try.prog W 0 (fun _ => true) true 22 v d p) :
    ∃ A c es, v = .slice A (List.length es) c ∧ ES W W.heap.size A c es := by
  obtain ⟨a, len, cap, rfl⟩ := okWide_slice Try.underlying22 hv
  obtain ⟨fuel, hf⟩ := h
  rcases Go.Deep.open_slice_pairs Try.underlying22 Try.underlying38 (by kernel_rfl) rfl rfl (by kernel_rfl) (by kernel_rfl) hf with ⟨hcs, _⟩ | ⟨x, l, c, m, n, V0, V1, D0, D1, P0, P1, hcs, _, hl, hm, hmm, _, hcell⟩
  · simp [Value.cells] at hcs
    obtain ⟨rfl, rfl, rfl⟩ := hcs
    exact ⟨none, 0, [], rfl, by refine ⟨Nat.le_refl _, Nat.zero_le _, by simp, fun h => absurd rfl h⟩⟩
  · simp [Value.cells] at hcs
    obtain ⟨rfl, rfl, rfl⟩ := hcs
    have hlm : len ≤ m := by rw [hmm]; simpa using hl
    have hint : ∀ i, i < len → ∃ q : En, V0 i = .slice q.A q.xs.length q.cap ∧ V1 i = .int .i64 q.c ∧ RS W W.heap.size q.A q.cap q.xs := fun i hi => by
      obtain ⟨_, _, h0, h1⟩ := hcell i (by omega)
      obtain ⟨A, c, xs, e0, hR⟩ := rs_of_trod h0
      obtain ⟨z1, e1, _, w1⟩ := DataW.trod_int Try.underlying3 h1
      exact ⟨⟨A, c, xs, z1⟩, e0, by simpa using e1, hR⟩
    obtain ⟨q, hq⟩ := Go.Deep.choose_lt hint
    have hlen : ((List.range len).map q).length = len := by simp
    refine ⟨some x, cap, (List.range len).map q, by rw [hlen], ⟨by rw [hlen]; exact hl, hm, fun y hy => ?_, fun hn => ?_⟩⟩
    · obtain ⟨i, hi, rfl⟩ := List.mem_map.1 hy
      exact (hq i (List.mem_range.1 hi)).2.2
    · have h0 : 0 < len := by
        rcases Nat.eq_zero_or_pos len with e | e
        · subst e; exact absurd rfl hn
        · exact e
      have hc := (hcell 0 (by omega)).1
      obtain ⟨b, off, spot⟩ := x
      have hspot : spot = none := by simpa [Addr.add] using World.cell?_spot hc
      subst hspot
      have hc0 : W.cell? ⟨b, off, none⟩ = some (V0 0) := by simpa [Addr.add] using hc
      refine ⟨b, off, rfl, cell_lt hc0, fun i y hy => ?_⟩
      have hi : i < len := by have := (List.getElem?_eq_some_iff.1 hy).1; omega
      simp [hi] at hy
      subst hy
      obtain ⟨c0, c1, _, _⟩ := hcell i (by omega)
      obtain ⟨e0, e1, _⟩ := hq i hi
      rw [Addr.add_lit] at c0 c1
      rw [← e0, ← e1]
      exact ⟨c0, by rw [Nat.add_assoc]; exact c1⟩

def RnW (W : World) (A : Option Addr) (c : Nat) (rs : List Int) : Prop := RnS W W.heap.size A rs ∧ rs.length ≤ c ∧ c ≤ maxLen
set_option maxRecDepth 100000 in
theorem runes_of_arg {H : Type} {enc : TypeId × Value → H} {W : World} {b0 : Nat} {v : Value} {d : DataW H} {p : List MemPlace} (hv : Value.okWide Try.prog W .any b0 23 v) (h : DataW.Trod enc Try.prog W 0 (fun _ => true) true 23 v d p) :
    ∃ A c rs, v = .slice A (List.length rs) c ∧ RnW W A c rs := by
  obtain ⟨a, len, cap, rfl⟩ := okWide_slice Try.underlying23 hv
  obtain ⟨fuel, hf⟩ := h
  rcases Go.Deep.open_slice1 Try.underlying23 (by kernel_rfl) hf with ⟨hcs, _⟩ | ⟨x, l, c, m, n, V, D, Pl, hcs, _, hl, hm, hmm, _, hcell⟩
  · simp [Value.cells] at hcs
    obtain ⟨rfl, rfl, rfl⟩ := hcs
    exact ⟨none, 0, [], rfl, ⟨by simp, fun h => absurd rfl h⟩, Nat.le_refl _, Nat.zero_le _⟩
  · simp [Value.cells] at hcs
    obtain ⟨rfl, rfl, rfl⟩ := hcs
    have hlm : len ≤ m := by rw [hmm]; simpa using hl
    have hint : ∀ i, i < len → ∃ q : Int, V i = .int .i32 q ∧ -2147483648 ≤ q ∧ q ≤ 2147483647 := fun i hi => by
      obtain ⟨_, h0⟩ := hcell i (by omega)
      obtain ⟨z0, e0, _, w0⟩ := DataW.trod_int Try.underlying21 h0
      have b0 : -2147483648 ≤ z0 ∧ z0 ≤ 2147483647 := by simpa [Lit.wf, IntKind.min, IntKind.max, IntKind.signed, IntKind.bits] using w0
      exact ⟨z0, by simpa using e0, b0⟩
    obtain ⟨q, hq⟩ := Go.Deep.choose_lt hint
    have hlen : ((List.range len).map q).length = len := by simp
    refine ⟨some x, cap, (List.range len).map q, by rw [hlen], ⟨fun y hy => ?_, fun hn => ?_⟩, by rw [hlen]; exact hl, hm⟩
    · obtain ⟨i, hi, rfl⟩ := List.mem_map.1 hy
      exact (hq i (List.mem_range.1 hi)).2
    · have h0 : 0 < len := by
        rcases Nat.eq_zero_or_pos len with e | e
        · subst e; exact absurd rfl hn
        · exact e
      have hc := (hcell 0 (by omega)).1
      obtain ⟨b, off, spot⟩ := x
      have hspot : spot = none := by simpa [Addr.add] using World.cell?_spot hc
      subst hspot
      have hc0 : W.cell? ⟨b, off, none⟩ = some (V 0) := by simpa [Addr.add] using hc
      refine ⟨b, off, rfl, cell_lt hc0, fun i y hy => ?_⟩
      have hi : i < len := by have := (List.getElem?_eq_some_iff.1 hy).1; omega
      simp [hi] at hy
      subst hy
      obtain ⟨c0, _⟩ := hcell i (by omega)
      rw [Addr.add_lit] at c0
      rw [← (hq i hi).1]
      exact c0
theorem tgets_walk (o : Int) (_o0 : -9223372036854775808 ≤ o) (_o1 : o ≤ 9223372036854775807) (A : Option Addr) (cap : Nat) (es : List En) (w : World) (h : ES w w.heap.size A cap es) (AR : Option Addr) (capR : Nat) (rs : List Int) (hr : RnW w AR capR rs) :
    Calls Try.prog 3 #[.int .i64 o, .slice A es.length cap, .slice AR rs.length capR] w fun e w' => e = .returned (.bool true) ∧ Below w.heap.size w w' :=
  tgets_any o A cap es AR capR rs w h hr.1 (by have := hr.2.1; have := hr.2.2; unfold maxLen at this; omega)
end Go.Proofs.Ytphhdkffnboboaa

namespace Go.Proofs.Ytphhdkffnboboaa
open Go.RowKit Go.Shelf
open Go.Lib Go.Great Go.Maps

theorem class_fits {F : Nat → Int} (hFi : ∀ i : Nat, i < 1114112 → F i = ((classR (i : Int) : Nat) : Int)) (r : Int) : (if r < 0 ∨ 1114111 < r then (0 : Int) else F r.toNat) = ((classR r : Nat) : Int) := by
  by_cases c : r < 0 ∨ 1114111 < r
  · rw [if_pos c, classR_out c]; rfl
  · rw [if_neg c]
    obtain ⟨a, rfl⟩ := Int.eq_ofNat_of_zero_le (show 0 ≤ r by omega)
    rw [Int.toNat_natCast, hFi a (by omega)]
set_option maxHeartbeats 4000000 in
set_option maxRecDepth 100000 in
theorem ptrieLaw_any (AR : Option Addr) (capR : Nat) (rs : List Int) (w : World) (hr : RnS w w.heap.size AR rs) (hrl : rs.length ≤ 9223372036854775807) :
    Calls Try.prog 11 #[.slice AR rs.length capR] w fun e w' => e = .returned (.bool true) ∧ Below w.heap.size w w' := by
  have T := Lib.hid awake_any
  have HRS := Lib.hid hr
  obtain ⟨m, hm⟩ : ∃ m, rs.length = m := ⟨_, rfl⟩
  have HN := Lib.hid hm
  rw [hm] at hrl
  rw [hm]
  clear hr hm
  by_cases hlong : 60 < m
  · have i1 : (60 : Int) < (m : Int) := by omega
    go_enter Try.func11, Try.ntmps11
    go_wp2_with fail
    refine (T.out _).mono ?_
    rintro e w2 ⟨rfl, hb⟩
    go_wp2_with fail
    go_ret
    exact ⟨rfl, hb⟩
  · have i1 : ¬ (60 : Int) < (m : Int) := by omega
    have d1 : decide ((60 : Int) < (m : Int)) = false := by simp; omega
    clear hlong
    go_enter Try.func11, Try.ntmps11
    go_wp2_with fail
    refine (T.out _).mono ?_
    rintro e w2 ⟨rfl, hb⟩
    have HB := Lib.hid hb
    clear hb
    go_wp2_with fail
    refine (ptrie_any _).mono ?_
    rintro e w5 ⟨T1, F, rfl, hT1, hF, hFi, hb5⟩
    have H5 := Lib.hid (And.intro (HB.out.trans (hb5.mono HB.out.size)) hT1)
    have HT := Lib.hid (And.intro hF hFi)
    clear hT1 hF hFi hb5
    go_wp2_with fail
    go_loopw [4] (fun i wr => ∃ k : Nat, i = .int .i64 (k : Int) ∧ k ≤ m ∧ Below w5.heap.size w5 wr) (fun i _ => m - (RowKit.intOf i).toNat)
    case atStart => exact ⟨0, rfl, Nat.zero_le _, Below.refl _ _⟩
    case round =>
      obtain ⟨k, rfl, hk, hb⟩ := hrel
      by_cases hlt : k < m
      · obtain ⟨r, hr⟩ : ∃ r, rs[k]? = some r := ⟨rs[k]'(by rw [HN.out]; exact hlt), List.getElem?_eq_getElem _⟩
        obtain ⟨b, o', rfl, hbl, hE⟩ := HRS.out.2 (by intro e; rw [e] at hr; simp at hr)
        have hrb := HRS.out.1 r (List.mem_of_getElem? hr)
        have q1 := hE k r hr
        have j1 : (k : Int) < (m : Int) := by omega
        have HBW := Lib.hid (H5.out.1.trans (hb.mono H5.out.1.size))
        have HB5 := Lib.hid hb
        have HRB := Lib.hid hrb
        clear hE hr hb hrb
        go_wp2_with fail
        have HQW := Lib.hid (show Below w.heap.size w wr.drew from HBW.out.drew)
        have cg := get_any T1 0 F r wr.drew ((H5.out.2.below HB5.out).below (Below.refl _ wr).drew) HT.out.1 HRB.out.1 HRB.out.2
        rw [class_fits HT.out.2 r] at cg
        have CR := (fun W => rclass_any r W HRB.out.1 HRB.out.2)
        rw [← class_eq r] at CR
        generalize classR r = N at *
        have CG := Lib.hid cg
        have CR := Lib.hid CR
        clear cg
        refine wp_region_noPanic ?_
        refine wp_region_held_drew (S := fun W => Below w.heap.size w W) (by kernel_rfl) HQW.out (fun hH => ?_)
        refine wpAnyH_take (i := 0) (oi := { dst := some 20, op := Op.move (Operand.tmp 3), type := 26, pos := "law.go:58", after := #[], guard := none }) (v := ?_) rfl (by kernel_rfl) (by kernel_rfl) (by kernel_rfl) (fun _ _ _ h => h) (Or.inl ⟨by rfl, ?_⟩) (by exact hH) ?_
        rotate_left
        · intro W hSw
          go_simp
          try with_reducible rfl
        try simp only [Act.put, List.setIfInBounds_toArray, List.set_cons_zero, List.set_cons_succ]
        refine wpAnyH_take (i := 1) (oi := { dst := some 21, op := Op.move (Operand.tmp 0), type := 23, pos := "law.go:58", after := #[], guard := none }) (v := ?_) rfl (by kernel_rfl) (by kernel_rfl) (by kernel_rfl) (fun _ _ _ h => h) (Or.inl ⟨by rfl, ?_⟩) (by exact hH) ?_
        rotate_left
        · intro W hSw
          go_simp
          try with_reducible rfl
        try simp only [Act.put, List.setIfInBounds_toArray, List.set_cons_zero, List.set_cons_succ]
        refine wpAnyH_take (i := 2) (oi := { dst := some 22, op := Op.move (Operand.tmp 4), type := 3, pos := "law.go:58", after := #[], guard := none }) (v := ?_) rfl (by kernel_rfl) (by kernel_rfl) (by kernel_rfl) (fun _ _ _ h => h) (Or.inl ⟨by rfl, ?_⟩) (by exact hH) ?_
        rotate_left
        · intro W hSw
          go_simp
          try with_reducible rfl
        try simp only [Act.put, List.setIfInBounds_toArray, List.set_cons_zero, List.set_cons_succ]
        refine wpAnyH_take (i := 3) (oi := { dst := some 23, op := Op.indexAddr 23 (Operand.tmp 21) (Operand.tmp 22), type := 0, pos := "law.go:58", after := #[{ on := 1, ground := Ground.data }, { on := 2, ground := Ground.data }], guard := none }) (v := ?_) rfl (by kernel_rfl) (by kernel_rfl) (by kernel_rfl) (fun _ _ _ h => h) (Or.inl ⟨by rfl, ?_⟩) (by exact hH) ?_
        rotate_left
        · intro W hSw
          go_simp
          try with_reducible rfl
        try simp only [Act.put, List.setIfInBounds_toArray, List.set_cons_zero, List.set_cons_succ]
        refine wpAnyH_take (i := 4) (oi := { dst := some 24, op := Op.load 21 (Operand.tmp 23), type := 21, pos := "law.go:58", after := #[{ on := 3, ground := Ground.data }], guard := none }) (v := ?_) rfl (by kernel_rfl) (by kernel_rfl) (by kernel_rfl) (fun _ _ _ h => h) (Or.inl ⟨by rfl, ?_⟩) (by exact hH) ?_
        rotate_left
        · intro W hSw
          have p := (hSw.cell (p := ⟨b, o' + k, none⟩) hbl).trans q1
          go_simp
          try with_reducible rfl
        try simp only [Act.put, List.setIfInBounds_toArray, List.set_cons_zero, List.set_cons_succ]
        refine wpAnyH_take (i := 6) (oi := { dst := some 26, op := Op.move (Operand.tmp 0), type := 23, pos := "law.go:58", after := #[], guard := none }) (v := ?_) rfl (by kernel_rfl) (by kernel_rfl) (by kernel_rfl) (fun _ _ _ h => h) (Or.inl ⟨by rfl, ?_⟩) (by exact hH) ?_
        rotate_left
        · intro W hSw
          go_simp
          try with_reducible rfl
        try simp only [Act.put, List.setIfInBounds_toArray, List.set_cons_zero, List.set_cons_succ]
        refine wpAnyH_take (i := 7) (oi := { dst := some 27, op := Op.move (Operand.tmp 4), type := 3, pos := "law.go:58", after := #[], guard := none }) (v := ?_) rfl (by kernel_rfl) (by kernel_rfl) (by kernel_rfl) (fun _ _ _ h => h) (Or.inl ⟨by rfl, ?_⟩) (by exact hH) ?_
        rotate_left
        · intro W hSw
          go_simp
          try with_reducible rfl
        try simp only [Act.put, List.setIfInBounds_toArray, List.set_cons_zero, List.set_cons_succ]
        refine wpAnyH_take (i := 8) (oi := { dst := some 28, op := Op.indexAddr 23 (Operand.tmp 26) (Operand.tmp 27), type := 0, pos := "law.go:58", after := #[{ on := 6, ground := Ground.data }, { on := 7, ground := Ground.data }], guard := none }) (v := ?_) rfl (by kernel_rfl) (by kernel_rfl) (by kernel_rfl) (fun _ _ _ h => h) (Or.inl ⟨by rfl, ?_⟩) (by exact hH) ?_
        rotate_left
        · intro W hSw
          go_simp
          try with_reducible rfl
        try simp only [Act.put, List.setIfInBounds_toArray, List.set_cons_zero, List.set_cons_succ]
        refine wpAnyH_take (i := 9) (oi := { dst := some 29, op := Op.load 21 (Operand.tmp 28), type := 21, pos := "law.go:58", after := #[{ on := 8, ground := Ground.data }], guard := none }) (v := ?_) rfl (by kernel_rfl) (by kernel_rfl) (by kernel_rfl) (fun _ _ _ h => h) (Or.inl ⟨by rfl, ?_⟩) (by exact hH) ?_
        rotate_left
        · intro W hSw
          have p := (hSw.cell (p := ⟨b, o' + k, none⟩) hbl).trans q1
          go_simp
          try with_reducible rfl
        try simp only [Act.put, List.setIfInBounds_toArray, List.set_cons_zero, List.set_cons_succ]
        refine wpAnyH_ready (rs := [5]) (by kernel_rfl) (by simp) ?_
        refine AllReadyH.cons (o := { dst := some 25, op := Op.call { callee := Callee.value (Operand.func 18), args := #[Operand.tmp 20, Operand.tmp 24], argTypes := #[26, 21] }, type := 3, pos := "law.go:58", after := #[{ on := 0, ground := Ground.data }, { on := 4, ground := Ground.data }], guard := none }) rfl (fun K hK => ?_) AllReadyH.nil
        go_simp
        go_at_call 18
        refine CG.out.mono ?_
        rintro e w6 ⟨rfl, hb6⟩
        have HB6 := Lib.hid (HQW.out.trans (hb6.mono HQW.out.size))
        have HB56 := Lib.hid ((HB5.out.drew).trans (hb6.mono HB5.out.size))
        clear hb6
        go_wp2_with fail
        refine hK.out _ _ HB6.out (fun hH => ?_)
        clear hK K
        try simp only [Act.put, List.setIfInBounds_toArray, List.set_cons_zero, List.set_cons_succ]
        refine wpAnyH_ready (rs := [10]) (by kernel_rfl) (by simp) ?_
        refine AllReadyH.cons (o := { dst := some 30, op := Op.call { callee := Callee.value (Operand.func 29), args := #[Operand.tmp 29], argTypes := #[21] }, type := 3, pos := "law.go:58", after := #[{ on := 9, ground := Ground.data }, { on := 5, ground := Ground.chain }], guard := none }) rfl (fun K hK => ?_) AllReadyH.nil
        go_simp
        go_at_call 29
        refine (CR.out _).mono ?_
        rintro e w7 ⟨rfl, hb7⟩
        have HB7 := Lib.hid (HB6.out.trans (hb7.mono HB6.out.size))
        have HB57 := Lib.hid (HB56.out.trans (hb7.mono HB56.out.size))
        clear hb7
        go_wp2_with fail
        refine hK.out _ _ HB7.out (fun hH => ?_)
        clear hK K
        try simp only [Act.put, List.setIfInBounds_toArray, List.set_cons_zero, List.set_cons_succ]
        refine wpAnyH_take (i := 11) (oi := { dst := some 31, op := Op.binOp BinOp.neq 3 (Operand.tmp 25) (Operand.tmp 30) 3, type := 4, pos := "law.go:58", after := #[{ on := 5, ground := Ground.data }, { on := 10, ground := Ground.data }], guard := none }) (v := ?_) rfl (by kernel_rfl) (by kernel_rfl) (by kernel_rfl) (fun _ _ _ h => h) (Or.inl ⟨by rfl, ?_⟩) (by exact hH) ?_
        rotate_left
        · intro W hSw
          go_simp
          try with_reducible rfl
        try simp only [Act.put, List.setIfInBounds_toArray, List.set_cons_zero, List.set_cons_succ]
        refine wpAnyH_done (by kernel_rfl) ?_ _
        refine NoPanic.normal ?_
        have hbz := HB57.out
        go_wp2_with fail
        go_roundw
        case rel => exact ⟨k + 1, by go_num, by omega, hbz⟩
        case measure => simp [RowKit.intOf]; omega
      · have j1 : ¬ (k : Int) < (m : Int) := by omega
        have j2 : decide ((k : Int) < (m : Int)) = false := by simp; omega
        have hbz := H5.out.1.trans (hb.mono H5.out.1.size)
        have CG := get_any T1 0 F 65 wr (H5.out.2.below hb) HT.out.1 (by omega) (by omega)
        rw [class_fits HT.out.2, cls65] at CG
        have CG := Lib.hid CG
        have HBZ := Lib.hid hbz
        clear hb hbz
        go_wp2_with fail
        refine CG.out.mono ?_
        rintro e w7 ⟨rfl, hb7⟩
        have hbz := HBZ.out.trans (hb7.mono HBZ.out.size)
        clear hb7
        go_wp2_with fail
        go_ret
        exact ⟨rfl, hbz⟩
theorem ptrie_walk (AR : Option Addr) (capR : Nat) (rs : List Int) (w : World) (hr : RnW w AR capR rs) :
    Calls Try.prog 11 #[.slice AR rs.length capR] w fun e w' => e = .returned (.bool true) ∧ Below w.heap.size w w' :=
  ptrieLaw_any AR capR rs w hr.1 (by have := hr.2.1; have := hr.2.2; unfold maxLen at this; omega)
end Go.Proofs.Ytphhdkffnboboaa

