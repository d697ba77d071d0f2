/-
  The law TrieGets: any number's class; or why there is no trie.
-/
import Derived.BigQuiet
import Derived.Lib.QuietBelow
import Derived.Test.YtphhdkffnboboaaTg3
namespace Go.Proofs.Ytphhdkffnboboaa
open Go.RowKit Go.Shelf
open Go.Lib Go.Great Go.Maps

/-- Numbers one behind the other. -/
def RnS (w : World) (B : Nat) (A : Option Addr) (rs : List Int) : Prop := (∀ r ∈ rs, -2147483648 ≤ r ∧ r ≤ 2147483647) ∧ (rs ≠ [] → ∃ b o, A = some ⟨b, o, none⟩ ∧ b < B ∧ ∀ i r, rs[i]? = some r → w.cell? ⟨b, o + i, none⟩ = some (.int .i32 r))
theorem same2_any (l l' : List En) (h : same2 l l') : l.any wrongE = l'.any wrongE := by
  have e : ∀ l : List En, l.any wrongE = (l.map (fun e => (e.xs, e.c))).any (fun p => !cls p.2 || !right p.1) := fun l => by rw [List.any_map]; rfl
  rw [e, e, h]
theorem same2_fold (l l' : List En) (h : same2 l l') (i : Int) (o : Int) : l.foldl (fun v e => if hasR e.xs i then e.c else v) o = l'.foldl (fun v e => if hasR e.xs i then e.c else v) o := by
  have e : ∀ (l : List En) (o : Int), l.foldl (fun v e => if hasR e.xs i then e.c else v) o = (l.map (fun e => (e.xs, e.c))).foldl (fun v p => if hasR p.1 i then p.2 else v) o := fun l => by
    induction l with
    | nil => intro o; rfl
    | cons x xs ih => intro o; rw [List.foldl_cons, List.map_cons, List.foldl_cons]; exact ih _
  rw [e, e, h]
theorem getE_in (o : Int) (es : List En) (i : Int) (h0 : 0 ≤ i) (h1 : i ≤ 1114111) : getE o es i = es.foldl (fun v e => if hasR e.xs i then e.c else v) o := by
  unfold getE hitE
  simp [h0, h1]
theorem getE_out (o : Int) (es : List En) (i : Int) (h : i < 0 ∨ 1114111 < i) : getE o es i = o := by
  unfold getE hitE
  have e : ∀ e : En, (hasR e.xs i && decide (0 ≤ i) && decide (i ≤ 1114111)) = false := fun e => by
    rcases h with h | h
    · have : decide (0 ≤ i) = false := by simp; omega
      simp [this]
    · have : decide (i ≤ 1114111) = false := by simp; omega
      simp [this]
  induction es with
  | nil => rfl
  | cons x xs ih => rw [List.foldl_cons, e, if_neg (by simp)]; exact ih
/-- What the trie tells is what the document's answer tells. -/
theorem get_agree {o : Int} {es es' : List En} {F : Nat → Int} (hs : same2 es' es) (hF : ∀ i : Nat, i < 1114112 → F i = es'.foldl (fun v e => if hasR e.xs i then e.c else v) o) (r : Int) : (if r < 0 ∨ 1114111 < r then o else F r.toNat) = getE o es r := by
  by_cases c : r < 0 ∨ 1114111 < r
  · rw [if_pos c, getE_out o es r c]
  · rw [if_neg c]
    obtain ⟨a, rfl⟩ := Int.eq_ofNat_of_zero_le (show 0 ≤ r by omega)
    rw [getE_in o es _ (by omega) (by omega), Int.toNat_natCast, hF a (by omega)]
    exact same2_fold es' es hs _ o

set_option maxHeartbeats 4000000 in
set_option maxRecDepth 100000 in
theorem tgets_any (o : Int) (A : Option Addr) (cap : Nat) (es : List En) (AR : Option Addr) (capR : Nat) (rs : List Int) (w : World) (h : ES w w.heap.size A cap es) (hr : RnS w w.heap.size AR rs) (hrl : rs.length ≤ 9223372036854775807) :
    Calls Try.prog 3 #[.int .i64 o, .slice A es.length cap, .slice AR rs.length capR] w fun e w' => e = .returned (.bool true) ∧ Below w.heap.size w w' := by
  have T := Lib.hid taw_any
  have G := Lib.hid (great_any A cap es w h)
  have HE := Lib.hid h
  have HRS := Lib.hid hr
  obtain ⟨n, hn⟩ : ∃ n, es.length = n := ⟨_, rfl⟩
  obtain ⟨m, hm⟩ : ∃ m, rs.length = m := ⟨_, rfl⟩
  have HN := Lib.hid (And.intro hn hm)
  rw [hm] at hrl
  rw [hn, hm]
  rw [hn] at G
  obtain ⟨q, hq⟩ : ∃ q, greatE es = q := ⟨_, rfl⟩
  have HQ := Lib.hid hq
  rw [hq] at G
  have G := Lib.hid G.out
  clear h hr hn hm hq
  cases q with
  | true =>
    go_enter Try.func3, Try.ntmps3
    go_wp2_with fail
    refine G.out.mono ?_
    rintro e w1 ⟨rfl, rfl⟩
    go_wp2_with fail
    refine (T.out _).mono ?_
    rintro e w2 ⟨rfl, hb⟩
    go_wp2_with fail
    go_ret
    exact ⟨rfl, hb⟩
  | false =>
    by_cases hlong : 40 < m
    · have i1 : (40 : Int) < (m : Int) := by omega
      go_enter Try.func3, Try.ntmps3
      go_wp2_with fail
      refine G.out.mono ?_
      rintro e w1 ⟨rfl, rfl⟩
      go_wp2_with fail
      refine (T.out _).mono ?_
      rintro e w2 ⟨rfl, hb⟩
      go_wp2_with fail
      go_ret
      exact ⟨rfl, hb⟩
    · have i1 : ¬ (40 : Int) < (m : Int) := by omega
      have d1 : decide ((40 : Int) < (m : Int)) = false := by simp; omega
      have hg : es.length ≤ 12 ∧ ∀ e ∈ es, e.xs.length ≤ 12 := by
        have := HQ.out
        unfold greatE at this
        rw [Bool.or_eq_false_iff] at this
        have h12 : es.length ≤ 12 := by have := this.2; simp at this; omega
        refine ⟨h12, fun e he => ?_⟩
        have h1 := this.1
        rw [List.take_of_length_le h12, List.any_eq_false] at h1
        have := h1 e he
        simp at this
        omega
      have HG := Lib.hid hg
      clear hg hlong
      go_enter Try.func3, Try.ntmps3
      go_wp2_with fail
      refine G.out.mono ?_
      rintro e w1 ⟨rfl, rfl⟩
      go_wp2_with fail
      refine (T.out _).mono ?_
      rintro e w2 ⟨rfl, hb⟩
      have C := Lib.hid (lawto_any A cap es w2 ((HE.out.below hb).mono hb.size) HG.out.1 HG.out.2)
      have HB := Lib.hid hb
      rw [HN.out.1] at C
      have C := Lib.hid C.out
      clear hb
      go_wp2_with fail
      refine C.out.mono ?_
      rintro e w3 ⟨A3, c3, es3, rfl, hl3, hs3, hES3, hF3, hb3⟩
      have hN := new_any o A3 c3 es3 w3 hES3 hF3 (by have := HG.out.1; have := HN.out.1; omega) (fun e he => by
        have : (e.xs, e.c) ∈ es.map (fun e => (e.xs, e.c)) := by rw [← hs3]; exact List.mem_map.2 ⟨e, he, rfl⟩
        obtain ⟨e', he', hee⟩ := List.mem_map.1 this
        simp only [Prod.mk.injEq] at hee
        rw [← hee.1]
        have := HG.out.2 e' he'
        omega)
      have e3 : es3.length = n := hl3
      rw [e3] at hN
      have NW := Lib.hid hN
      have hbz := HB.out.trans (hb3.mono HB.out.size)
      have HB := Lib.hid hbz
      have HS3 := Lib.hid hs3
      clear hbz hb3 hs3 hES3 hF3 hl3 hN e3
      go_wp2_with fail
      refine NW.out.mono ?_
      rintro e w4 ⟨hb4, hp⟩
      have hbz := HB.out.trans (hb4.mono HB.out.size)
      have HB := Lib.hid hbz
      have MY := Lib.hid (lawmay_any o A cap es w4 ((HE.out.below hbz).mono hbz.size))
      rw [mayE_wrong, ← same2_any _ _ HS3.out, HN.out.1] at MY
      have MY := Lib.hid MY.out
      clear hbz hb4
      by_cases hok : (cls o && !es3.any wrongE) = true
      · rw [if_pos hok] at hp
        rw [hok] at MY
        have MY := Lib.hid MY.out
        obtain ⟨T1, F, rfl, hF, hFi, hT1⟩ := hp
        have HT := Lib.hid (And.intro hT1 (And.intro hF hFi))
        clear hok hT1 hF hFi
        go_wp2_with fail
        refine MY.out.mono ?_
        rintro e w5 ⟨rfl, hb5⟩
        have hbz := HB.out.trans (hb5.mono HB.out.size)
        have hT5 := HT.out.1.below hb5
        have H5 := Lib.hid (And.intro hbz hT5)
        clear hbz hT5 hb5
        go_wp2_with fail
        go_loopw [9] (fun i wr => ∃ k : Nat, i = .int .i64 (k : Int) ∧ k ≤ m ∧ Below w5.heap.size w5 wr) (fun i _ => m - (RowKit.intOf i).toNat)
        case atStart => exact ⟨0, rfl, Nat.zero_le _, Below.refl _ _⟩
        case round =>
          obtain ⟨k, rfl, hk, hb⟩ := hrel
          by_cases hlt : k < m
          · obtain ⟨r, hr⟩ : ∃ r, rs[k]? = some r := ⟨rs[k]'(by rw [HN.out.2]; exact hlt), List.getElem?_eq_getElem _⟩
            obtain ⟨b, o', rfl, hbl, hE⟩ := HRS.out.2 (by intro e; rw [e] at hr; simp at hr)
            have hrb := HRS.out.1 r (List.mem_of_getElem? hr)
            have q1 := hE k r hr
            have j1 : (k : Int) < (m : Int) := by omega
            have HX := Lib.hid (get_agree HS3.out HT.out.2.2 r)
            have HBW := Lib.hid (H5.out.1.trans (hb.mono H5.out.1.size))
            have HB5 := Lib.hid hb
            have HRB := Lib.hid hrb
            clear hE hr hb hrb
            go_wp2_with fail
            have HQW := Lib.hid (show Below w1.heap.size w1 wr.drew from HBW.out.drew)
            have CG := Lib.hid (get_any T1 o F r wr.drew ((H5.out.2.below HB5.out).below (Below.refl _ wr).drew) HT.out.2.1 HRB.out.1 HRB.out.2)
            rw [HX.out] at CG
            have CG := Lib.hid CG.out
            refine wp_region_noPanic ?_
            refine wp_region_held_drew (S := fun W => Below w1.heap.size w1 W) (by kernel_rfl) HQW.out (fun hH => ?_)
            refine wpAnyH_take (i := 0) (oi := { dst := some 45, op := Op.move (Operand.tmp 7), type := 26, pos := "law.go:57", after := #[], guard := none }) (v := ?_) rfl (by kernel_rfl) (by kernel_rfl) (by kernel_rfl) (fun _ _ _ h => h) (Or.inl ⟨by rfl, ?_⟩) (by exact hH) ?_
            rotate_left
            · intro W hSw
              go_simp
              try with_reducible rfl
            try simp only [Act.put, List.setIfInBounds_toArray, List.set_cons_zero, List.set_cons_succ]
            refine wpAnyH_take (i := 1) (oi := { dst := some 46, op := Op.move (Operand.tmp 2), type := 23, pos := "law.go:57", after := #[], guard := none }) (v := ?_) rfl (by kernel_rfl) (by kernel_rfl) (by kernel_rfl) (fun _ _ _ h => h) (Or.inl ⟨by rfl, ?_⟩) (by exact hH) ?_
            rotate_left
            · intro W hSw
              go_simp
              try with_reducible rfl
            try simp only [Act.put, List.setIfInBounds_toArray, List.set_cons_zero, List.set_cons_succ]
            refine wpAnyH_take (i := 2) (oi := { dst := some 47, op := Op.move (Operand.tmp 9), type := 3, pos := "law.go:57", after := #[], guard := none }) (v := ?_) rfl (by kernel_rfl) (by kernel_rfl) (by kernel_rfl) (fun _ _ _ h => h) (Or.inl ⟨by rfl, ?_⟩) (by exact hH) ?_
            rotate_left
            · intro W hSw
              go_simp
              try with_reducible rfl
            try simp only [Act.put, List.setIfInBounds_toArray, List.set_cons_zero, List.set_cons_succ]
            refine wpAnyH_take (i := 3) (oi := { dst := some 48, op := Op.indexAddr 23 (Operand.tmp 46) (Operand.tmp 47), type := 0, pos := "law.go:57", after := #[{ on := 1, ground := Ground.data }, { on := 2, ground := Ground.data }], guard := none }) (v := ?_) rfl (by kernel_rfl) (by kernel_rfl) (by kernel_rfl) (fun _ _ _ h => h) (Or.inl ⟨by rfl, ?_⟩) (by exact hH) ?_
            rotate_left
            · intro W hSw
              go_simp
              try with_reducible rfl
            try simp only [Act.put, List.setIfInBounds_toArray, List.set_cons_zero, List.set_cons_succ]
            refine wpAnyH_take (i := 4) (oi := { dst := some 49, op := Op.load 21 (Operand.tmp 48), type := 21, pos := "law.go:57", after := #[{ on := 3, ground := Ground.data }], guard := none }) (v := ?_) rfl (by kernel_rfl) (by kernel_rfl) (by kernel_rfl) (fun _ _ _ h => h) (Or.inl ⟨by rfl, ?_⟩) (by exact hH) ?_
            rotate_left
            · intro W hSw
              have p := (hSw.cell (p := ⟨b, o' + k, none⟩) hbl).trans q1
              go_simp
              try with_reducible rfl
            try simp only [Act.put, List.setIfInBounds_toArray, List.set_cons_zero, List.set_cons_succ]
            refine wpAnyH_take (i := 6) (oi := { dst := some 51, op := Op.move (Operand.tmp 0), type := 3, pos := "law.go:57", after := #[], guard := none }) (v := ?_) rfl (by kernel_rfl) (by kernel_rfl) (by kernel_rfl) (fun _ _ _ h => h) (Or.inl ⟨by rfl, ?_⟩) (by exact hH) ?_
            rotate_left
            · intro W hSw
              go_simp
              try with_reducible rfl
            try simp only [Act.put, List.setIfInBounds_toArray, List.set_cons_zero, List.set_cons_succ]
            refine wpAnyH_take (i := 7) (oi := { dst := some 52, op := Op.move (Operand.tmp 1), type := 22, pos := "law.go:57", after := #[], guard := none }) (v := ?_) rfl (by kernel_rfl) (by kernel_rfl) (by kernel_rfl) (fun _ _ _ h => h) (Or.inl ⟨by rfl, ?_⟩) (by exact hH) ?_
            rotate_left
            · intro W hSw
              go_simp
              try with_reducible rfl
            try simp only [Act.put, List.setIfInBounds_toArray, List.set_cons_zero, List.set_cons_succ]
            refine wpAnyH_take (i := 8) (oi := { dst := some 53, op := Op.move (Operand.tmp 2), type := 23, pos := "law.go:57", after := #[], guard := none }) (v := ?_) rfl (by kernel_rfl) (by kernel_rfl) (by kernel_rfl) (fun _ _ _ h => h) (Or.inl ⟨by rfl, ?_⟩) (by exact hH) ?_
            rotate_left
            · intro W hSw
              go_simp
              try with_reducible rfl
            try simp only [Act.put, List.setIfInBounds_toArray, List.set_cons_zero, List.set_cons_succ]
            refine wpAnyH_take (i := 9) (oi := { dst := some 54, op := Op.move (Operand.tmp 9), type := 3, pos := "law.go:57", after := #[], guard := none }) (v := ?_) rfl (by kernel_rfl) (by kernel_rfl) (by kernel_rfl) (fun _ _ _ h => h) (Or.inl ⟨by rfl, ?_⟩) (by exact hH) ?_
            rotate_left
            · intro W hSw
              go_simp
              try with_reducible rfl
            try simp only [Act.put, List.setIfInBounds_toArray, List.set_cons_zero, List.set_cons_succ]
            refine wpAnyH_take (i := 10) (oi := { dst := some 55, op := Op.indexAddr 23 (Operand.tmp 53) (Operand.tmp 54), type := 0, pos := "law.go:57", after := #[{ on := 8, ground := Ground.data }, { on := 9, ground := Ground.data }], guard := none }) (v := ?_) rfl (by kernel_rfl) (by kernel_rfl) (by kernel_rfl) (fun _ _ _ h => h) (Or.inl ⟨by rfl, ?_⟩) (by exact hH) ?_
            rotate_left
            · intro W hSw
              go_simp
              try with_reducible rfl
            try simp only [Act.put, List.setIfInBounds_toArray, List.set_cons_zero, List.set_cons_succ]
            refine wpAnyH_take (i := 11) (oi := { dst := some 56, op := Op.load 21 (Operand.tmp 55), type := 21, pos := "law.go:57", after := #[{ on := 10, ground := Ground.data }], guard := none }) (v := ?_) rfl (by kernel_rfl) (by kernel_rfl) (by kernel_rfl) (fun _ _ _ h => h) (Or.inl ⟨by rfl, ?_⟩) (by exact hH) ?_
            rotate_left
            · intro W hSw
              have p := (hSw.cell (p := ⟨b, o' + k, none⟩) hbl).trans q1
              go_simp
              try with_reducible rfl
            try simp only [Act.put, List.setIfInBounds_toArray, List.set_cons_zero, List.set_cons_succ]
            refine wpAnyH_ready (rs := [5]) (by kernel_rfl) (by simp) ?_
            refine AllReadyH.cons (o := { dst := some 50, op := Op.call { callee := Callee.value (Operand.func 18), args := #[Operand.tmp 45, Operand.tmp 49], argTypes := #[26, 21] }, type := 3, pos := "law.go:57", after := #[{ on := 0, ground := Ground.data }, { on := 4, ground := Ground.data }], guard := none }) rfl (fun K hK => ?_) AllReadyH.nil
            go_simp
            go_at_call 18
            refine CG.out.mono ?_
            rintro e w6 ⟨rfl, hb6⟩
            have HB6 := Lib.hid (HQW.out.trans (hb6.mono HQW.out.size))
            have HB56 := Lib.hid ((HB5.out.drew).trans (hb6.mono HB5.out.size))
            have CR := Lib.hid (rget_any o A cap es r w6 ((HE.out.below HB6.out).mono HB6.out.size) HRB.out.1 HRB.out.2)
            rw [HN.out.1] at CR
            have CR := Lib.hid CR.out
            clear hb6
            go_wp2_with fail
            refine hK.out _ _ HB6.out (fun hH => ?_)
            clear hK K
            try simp only [Act.put, List.setIfInBounds_toArray, List.set_cons_zero, List.set_cons_succ]
            refine wpAnyH_ready (rs := [12]) (by kernel_rfl) (by simp) ?_
            refine AllReadyH.cons (o := { dst := some 57, op := Op.call { callee := Callee.value (Operand.func 19), args := #[Operand.tmp 51, Operand.tmp 52, Operand.tmp 56], argTypes := #[3, 22, 21] }, type := 3, pos := "law.go:57", after := #[{ on := 6, ground := Ground.data }, { on := 7, ground := Ground.data }, { on := 11, ground := Ground.data }, { on := 5, ground := Ground.chain }], guard := none }) rfl (fun K hK => ?_) AllReadyH.nil
            go_simp
            go_at_call 19
            refine CR.out.mono ?_
            rintro e w7 ⟨rfl, rfl⟩
            go_wp2_with fail
            refine hK.out _ _ HB6.out (fun hH => ?_)
            clear hK K
            try simp only [Act.put, List.setIfInBounds_toArray, List.set_cons_zero, List.set_cons_succ]
            refine wpAnyH_take (i := 13) (oi := { dst := some 58, op := Op.binOp BinOp.neq 3 (Operand.tmp 50) (Operand.tmp 57) 3, type := 4, pos := "law.go:57", after := #[{ on := 5, ground := Ground.data }, { on := 12, ground := Ground.data }], guard := none }) (v := ?_) rfl (by kernel_rfl) (by kernel_rfl) (by kernel_rfl) (fun _ _ _ h => h) (Or.inl ⟨by rfl, ?_⟩) (by exact hH) ?_
            rotate_left
            · intro W hSw
              go_simp
              try with_reducible rfl
            try simp only [Act.put, List.setIfInBounds_toArray, List.set_cons_zero, List.set_cons_succ]
            refine wpAnyH_done (by kernel_rfl) ?_ _
            refine NoPanic.normal ?_
            have hbz := HB56.out
            go_wp2_with fail
            go_roundw
            case rel => exact ⟨k + 1, by go_num, by omega, hbz⟩
            case measure => simp [RowKit.intOf]; omega
          · have j1 : ¬ (k : Int) < (m : Int) := by omega
            have j2 : decide ((k : Int) < (m : Int)) = false := by simp; omega
            have hbz := H5.out.1.trans (hb.mono H5.out.1.size)
            go_wp2_with fail
            go_ret
            exact ⟨rfl, hbz⟩
      · rw [if_neg hok] at hp
        have hok : (cls o && !es3.any wrongE) = false := by simpa using hok
        rw [hok] at MY
        have MY := Lib.hid MY.out
        subst hp
        clear hok
        go_wp2_with fail
        refine MY.out.mono ?_
        rintro e w5 ⟨rfl, hb5⟩
        have hbz := HB.out.trans (hb5.mono HB.out.size)
        go_wp2_with fail
        go_ret
        exact ⟨rfl, hbz⟩
end Go.Proofs.Ytphhdkffnboboaa
