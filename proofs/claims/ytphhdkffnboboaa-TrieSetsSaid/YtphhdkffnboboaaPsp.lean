/-
  The law TrieApart: two tries are the same just if each tells the same sets; entries that are said twice change nothing.
  Contracts: virguleref03.Set.
-/
import Derived.Test.YtphhdkffnboboaaPsi
import Derived.Test.YtphhdkffnboboaaPso
import Derived.Deep.AppendLies
import Derived.Test.YtphhdkffnboboaaPsk
import Derived.Test.YtphhdkffnboboaaPsm
namespace Go.Proofs.Ytphhdkffnboboaa
open Go.RowKit Go.Shelf
open Go.Lib Go.Great Go.Maps

set_option maxRecDepth 100000 in
theorem wpList_append_two {w : World} {ops : Array Oper} {rest : List Oper} {o : Oper} {a : Act} {Q : Exit → Act → World → Prop} (hgd : o.guard = none) (s x : Operand)
    (ho : o.op = .call { callee := .builtin .append, args := #[s, x], argTypes := #[30, 30] })
    (base : Nat) (v : Value) (n : Nat) (es4 : List En) (hs : a.eval s = v) (hown : w.ownsRow base 72 2 v n (es4.flatMap cellE)) (hl4 : es4.length = n)
    (hR4 : ∀ e ∈ es4, RS w w.heap.size e.A e.cap e.xs ∧ ∀ p, e.A = some p → v.ownBlock ≠ some p.block)
    (A : Option Addr) (c : Nat) (es : List En) (hx : a.eval x = .slice A es.length c) (hE : ES w w.heap.size A c es) (hF : Fw A c) (hR5 : ∀ e ∈ es, ∀ p, e.A = some p → v.ownBlock ≠ some p.block)
    (h63 : n + es.length ≤ 10000000) (hbase : base ≤ w.heap.size)
    (h : ∀ A' c' w', ES w' w'.heap.size A' c' (es4 ++ es) → Fw A' c' → Below base w w' → wpList Try.prog ops Q rest (a.put o.dst (.slice A' (n + es.length) c')) w') : wpList Try.prog ops Q (o :: rest) a w := by
  refine wpList_plain hgd fun K hK => ?_
  obtain ⟨i, hi, hzz⟩ := Option.map_eq_some_iff.1 Try.info72
  simp only [Prod.mk.injEq] at hzz
  obtain ⟨hz, hsize, hby⟩ := hzz
  have key : ∃ A' c' w', (Builtin.append_ #[30, 30] o.type #[v, .slice A es.length c]).run Try.prog w = .ok (.slice A' (n + es.length) c') w' ∧ ES w' w'.heap.size A' c' (es4 ++ es) ∧ Fw A' c' ∧ Below base w w' := by
    rcases A with _ | ad
    · obtain rfl := hF rfl
      have h0 : es = [] := List.length_eq_zero_iff.1 (by have := hE.1; omega)
      subst h0
      obtain ⟨A', c', rfl, hES, hFw⟩ := ES_of_own hown hl4 (fun e he => (hR4 e he).1)
      exact ⟨A', c', w, run_append_owned_none (P := Try.prog) (w := w) base 30 o.type 72 i 2 Try.underlying30 hi _ _ _ hown, by simpa using hES, hFw, Below.refl _ _⟩
    · have hc : ∀ j u, (es.flatMap cellE)[j]? = some u → w.cell? (ad.add j) = some u := fun j u hj => by
        have hn : es ≠ [] := by rintro rfl; simp at hj
        obtain ⟨b', o', e', _, hg⟩ := hE.2.2.2 hn
        injection e' with e'
        rw [e', Addr.add_lit]
        exact hg.cells j u hj
      obtain ⟨v', w', h1, h2, h3, h4, _⟩ := run_append_own_at (P := Try.prog) w base 30 o.type 72 i _ 2 32 Try.underlying30 hi hz hsize hby rfl (by omega) v n _ hown ad es.length c (es.flatMap cellE) (flat2_len es) hc (flat2_one es) (by unfold maxLen; omega) (by omega) hbase
      rw [← List.flatMap_append] at h2
      obtain ⟨A', c', rfl, hES, hFw⟩ := ES_of_own h2 (by simp [hl4]) (fun e he => by
        rcases List.mem_append.1 he with he | he
        · exact RS_grown (hR4 e he).1 (Nat.le_refl _) h3 (hR4 e he).2
        · exact RS_grown (hE.2.2.1 e he) (Nat.le_refl _) h3 (hR5 e he))
      exact ⟨A', c', w', h1, hES, hFw, (Below.refl _ w).grown h3 hbase (fun k e' => (own_block_lt hown k e').1)⟩
  obtain ⟨A', c', w', hrun, h2, h3, h4⟩ := key
  unfold Oper.wp
  simp [execOp, ho, resolve, invoke, builtin, hs, hx, hrun, Result.andThen]
  exact hK _ _ (h A' c' w' h2 h3 h4)

theorem great_small {es : List En} (h : greatE es = false) : es.length ≤ 12 ∧ ∀ e ∈ es, e.xs.length ≤ 12 := by
  unfold greatE at h
  rw [Bool.or_eq_false_iff] at h
  have h12 : es.length ≤ 12 := by have := h.2; simp at this; omega
  refine ⟨h12, fun e he => ?_⟩
  have h1 := h.1
  rw [List.take_of_length_le h12, List.any_eq_false] at h1
  have := h1 e he
  simp at this
  omega
theorem same2_small {es es' : List En} (hs : same2 es' es) (h : ∀ e ∈ es, e.xs.length ≤ 12) : ∀ e ∈ es', e.xs.length ≤ 1000000 := fun e he => by
  have : (e.xs, e.c) ∈ es.map (fun e => (e.xs, e.c)) := by rw [← hs]; exact List.mem_map.2 ⟨e, he, rfl⟩
  obtain ⟨e', he', hee⟩ := List.mem_map.1 this
  simp only [Prod.mk.injEq] at hee
  rw [← hee.1]
  have := h e' he'
  omega
theorem right_setC (G : Nat → Int) (c : Int) : right (setC G c) = true := norm_right _
theorem tset_sp (T : Nat) (o : Int) (G : Nat → Int) (c : Int) (w : World) (h : Tr w T o G) (hG : U8 G) (c0 : 0 ≤ c) (c1 : c ≤ 255) :
    Calls Try.prog 20 #[.pointer (some ⟨T, 0, none⟩), .int .i64 c] w (SP (setC G c) w) := by
  refine (tset_any T o G c w h hG c0 c1).mono ?_
  rintro e w' ⟨xs, hH, hT⟩
  have e1 := setC_of hT
  subst e1
  exact sp_of hH (i32_of_right hT.1)
theorem tells_ex (G : Nat → Int) (c : Int) : ∀ k, k ≤ 1114112 → ∃ xs, Tells xs (clsTo G c k) := by
  intro k
  induction k with
  | zero => intro _; exact ⟨[], tells_zero G c⟩
  | succ k ih =>
    intro hk
    obtain ⟨xs, h⟩ := ih (by omega)
    by_cases e : G k = c
    · exact ⟨_, tells_yes h (by omega) e⟩
    · exact ⟨_, tells_no h e⟩
theorem rsame_sp (A : Option Addr) (c : Nat) (xs : List Rng) (A' : Option Addr) (c' : Nat) (ys : List Rng) (w : World) (h : SW w A c xs) (h' : SW w A' c' ys) (hr : right xs = true) (hr' : right ys = true) :
    Calls Try.prog 26 #[.slice A xs.length c, .slice A' ys.length c'] w fun e w' => e = .returned (.bool (decide (xs = ys))) ∧ Below w.heap.size w w' := by
  have := same_any2 A c xs A' c' ys w h.r h.f h'.r h'.f
  rw [known_of hr, known_of hr'] at this
  exact this
noncomputable def eqC (F G : Nat → Int) (c : Nat) : Bool := decide (setC F (c : Int) = setC G (c : Int))

/-- What the tries of the law tell. -/
noncomputable def tellE (o : Int) (es : List En) (i : Nat) : Int := es.foldl (fun v e => if hasR e.xs i then e.c else v) o

set_option maxHeartbeats 4000000 in
set_option maxRecDepth 100000 in
theorem tapart_any (o : Int) (A : Option Addr) (cap : Nat) (es : List En) (AM : Option Addr) (capM : Nat) (ms : List En) (w : World) (h : ES w w.heap.size A cap es) (hM : ES w w.heap.size AM capM ms) :
    Calls Try.prog 6 #[.int .i64 o, .slice A es.length cap, .slice AM ms.length capM] w fun e w' => e = .returned (.bool true) ∧ Below w.heap.size w w' := by
  have T := Lib.hid taw_any
  have G1 := Lib.hid (great_any A cap es w h)
  have G2 := Lib.hid (great_any AM capM ms w hM)
  have HE := Lib.hid h
  have HM := Lib.hid hM
  obtain ⟨n, hn⟩ : ∃ n, es.length = n := ⟨_, rfl⟩
  obtain ⟨m, hm⟩ : ∃ m, ms.length = m := ⟨_, rfl⟩
  have HN := Lib.hid (And.intro hn hm)
  rw [hn, hm]
  rw [hn] at G1
  rw [hm] at G2
  obtain ⟨q, hq⟩ : ∃ q, greatE es = q := ⟨_, rfl⟩
  obtain ⟨q2, hq2⟩ : ∃ q, greatE ms = q := ⟨_, rfl⟩
  have HQ := Lib.hid (And.intro hq hq2)
  rw [hq] at G1
  rw [hq2] at G2
  have G1 := Lib.hid G1.out
  have G2 := Lib.hid G2.out
  clear h hM hn hm hq hq2
  cases q with
  | true =>
    go_enter Try.func6, Try.ntmps6
    go_wp2_with fail
    refine G1.out.mono ?_
    rintro e w1 ⟨rfl, rfl⟩
    go_wp2_with fail
    refine (T.out _).mono ?_
    rintro e w2 ⟨rfl, hb⟩
    go_wp2_with fail
    go_ret
    exact ⟨rfl, hb⟩
  | false =>
    cases q2 with
    | true =>
      go_enter Try.func6, Try.ntmps6
      go_wp2_with fail
      refine G1.out.mono ?_
      rintro e w1 ⟨rfl, rfl⟩
      go_wp2_with fail
      refine G2.out.mono ?_
      rintro e w1 ⟨rfl, rfl⟩
      go_wp2_with fail
      refine (T.out _).mono ?_
      rintro e w2 ⟨rfl, hb⟩
      go_wp2_with fail
      go_ret
      exact ⟨rfl, hb⟩
    | false =>
      have HG := Lib.hid (And.intro (great_small HQ.out.1) (great_small HQ.out.2))
      have hn12 : n ≤ 12 := by have := HG.out.1.1; have := HN.out.1; omega
      have hm12 : m ≤ 12 := by have := HG.out.2.1; have := HN.out.2; omega
      go_enter Try.func6, Try.ntmps6
      go_wp2_with fail
      refine G1.out.mono ?_
      rintro e w1 ⟨rfl, rfl⟩
      go_wp2_with fail
      refine G2.out.mono ?_
      rintro e w1 ⟨rfl, rfl⟩
      go_wp2_with fail
      refine (T.out _).mono ?_
      rintro e w2 ⟨rfl, hb⟩
      have HB := Lib.hid hb
      have MY := Lib.hid (lawmay_any o A cap es w2 ((HE.out.below hb).mono hb.size))
      rw [mayE_wrong, HN.out.1] at MY
      have MY := Lib.hid MY.out
      clear hb
      go_wp2_with fail
      refine MY.out.mono ?_
      rintro e w3 ⟨rfl, hb3⟩
      have hbz := HB.out.trans (hb3.mono HB.out.size)
      have HB := Lib.hid hbz
      obtain ⟨y1, hy1⟩ : ∃ y, (cls o && !es.any wrongE) = y := ⟨_, rfl⟩
      have HY1 := Lib.hid hy1
      rw [hy1]
      clear hbz hb3 hy1
      cases y1 with
      | false =>
        have hbz := HB.out
        go_wp2_with fail
        go_ret
        exact ⟨rfl, hbz⟩
      | true =>
        have MY2 := Lib.hid (lawmay_any o AM capM ms w3 ((HM.out.below HB.out).mono HB.out.size))
        rw [mayE_wrong, HN.out.2] at MY2
        have MY2 := Lib.hid MY2.out
        go_wp2_with fail
        refine MY2.out.mono ?_
        rintro e w4 ⟨rfl, hb4⟩
        have hbz := HB.out.trans (hb4.mono HB.out.size)
        have HB := Lib.hid hbz
        obtain ⟨y2, hy2⟩ : ∃ y, (cls o && !ms.any wrongE) = y := ⟨_, rfl⟩
        have HY2 := Lib.hid hy2
        rw [hy2]
        clear hbz hb4 hy2
        cases y2 with
        | false =>
          have hbz := HB.out
          go_wp2_with fail
          go_ret
          exact ⟨rfl, hbz⟩
        | true =>
          have C1 := Lib.hid (lawto_own A cap es w4 ((HE.out.below HB.out).mono HB.out.size) HG.out.1.1 HG.out.1.2)
          rw [HN.out.1] at C1
          have C1 := Lib.hid C1.out
          go_wp2_with fail
          refine C1.out.mono ?_
          rintro e w5 ⟨v1, es1, rfl, hl1, hs1, hown1, hR1, hbx⟩
          have hbz := HB.out.trans (hbx.mono HB.out.size)
          have HB := Lib.hid hbz
          clear hbz
          obtain ⟨A1, c1, rfl, hES1, hF1⟩ := ES_own hown1 hl1 (fun e he => (hR1 e he).1)
          have hN := new_any o A1 c1 es1 w5 hES1 hF1 (by omega) (same2_small hs1 HG.out.1.2)
          rw [hl1] at hN
          have NW := Lib.hid hN
          have hok : (cls o && !es1.any wrongE) = true := by rw [same2_any _ _ hs1]; exact HY1.out
          have HOK := Lib.hid hok
          have HS1 := Lib.hid hs1
          clear hN hok hES1 hF1 hown1 hR1 hs1
          clear hbx
          go_wp2_with fail
          refine NW.out.mono ?_
          rintro e w6 ⟨hbx, hp⟩
          rw [if_pos HOK.out] at hp
          obtain ⟨T1, F1, rfl, hU, hFi, hT⟩ := hp
          have HT1 := Lib.hid hT
          have HF1 : Hid (U8 F1 ∧ ∀ i : Nat, i < 1114112 → F1 i = tellE o es i) := Lib.hid ⟨hU, fun i hi => by rw [hFi i hi, same2_fold _ _ HS1.out]; rfl⟩
          have hbz := HB.out.trans (hbx.mono HB.out.size)
          have HB := Lib.hid hbz
          clear hbz hU hFi hT
          clear hbx
          have C2 := Lib.hid (lawto_own AM capM ms w6 ((HM.out.below HB.out).mono HB.out.size) HG.out.2.1 HG.out.2.2)
          rw [HN.out.2] at C2
          have C2 := Lib.hid C2.out
          go_wp2_with fail
          refine C2.out.mono ?_
          rintro e w7 ⟨v2, es2, rfl, hl2, hs2, hown2, hR2, hbx⟩
          have hbz := HB.out.trans (hbx.mono HB.out.size)
          have HB := Lib.hid hbz
          clear hbz
          have HT1 := Lib.hid (HT1.out.below hbx)
          obtain ⟨A2, c2, rfl, hES2, hF2⟩ := ES_own hown2 hl2 (fun e he => (hR2 e he).1)
          have hN := new_any o A2 c2 es2 w7 hES2 hF2 (by omega) (same2_small hs2 HG.out.2.2)
          rw [hl2] at hN
          have NW := Lib.hid hN
          have hok : (cls o && !es2.any wrongE) = true := by rw [same2_any _ _ hs2]; exact HY2.out
          have HOK := Lib.hid hok
          have HS2 := Lib.hid hs2
          clear hN hok hES2 hF2 hown2 hR2 hs2
          clear hbx
          go_wp2_with fail
          refine NW.out.mono ?_
          rintro e w8 ⟨hbx, hp⟩
          rw [if_pos HOK.out] at hp
          obtain ⟨T2, F2, rfl, hU, hFi, hT⟩ := hp
          have HT2 := Lib.hid hT
          have HF2 : Hid (U8 F2 ∧ ∀ i : Nat, i < 1114112 → F2 i = tellE o ms i) := Lib.hid ⟨hU, fun i hi => by rw [hFi i hi, same2_fold _ _ HS2.out]; rfl⟩
          have hbz := HB.out.trans (hbx.mono HB.out.size)
          have HB := Lib.hid hbz
          clear hbz hU hFi hT
          have HT1 := Lib.hid (HT1.out.below hbx)
          clear hbx
          have HW18 := Lib.hid HB.out.size
          have HB8 := Lib.hid (Below.refl w8.heap.size w8)
          have C4 := Lib.hid (lawto_own A cap es w8 ((HE.out.below HB.out).mono HB.out.size) HG.out.1.1 HG.out.1.2)
          rw [HN.out.1] at C4
          have C4 := Lib.hid C4.out
          go_wp2_with fail
          refine C4.out.mono ?_
          rintro e w9 ⟨v4, es4, rfl, hl4, hs4, hown4, hR4, hbx⟩
          have hbz := HB.out.trans (hbx.mono HB.out.size)
          have HB := Lib.hid hbz
          clear hbz
          have HB8 := Lib.hid (HB8.out.trans (hbx.mono HB8.out.size))
          have H4 := Lib.hid (And.intro hown4 (And.intro hl4 (And.intro hR4 hs4)))
          clear hown4 hR4 hs4 hbx
          have C5 := Lib.hid (lawto_own A cap es w9 ((HE.out.below HB.out).mono HB.out.size) HG.out.1.1 HG.out.1.2)
          rw [HN.out.1] at C5
          have C5 := Lib.hid C5.out
          go_wp2_with fail
          refine C5.out.mono ?_
          rintro e w10 ⟨v5, es5, rfl, hl5, hs5, hown5, hR5, hbx⟩
          have hbz := HB.out.trans (hbx.mono HB.out.size)
          have HB := Lib.hid hbz
          clear hbz
          have HB8 := Lib.hid (HB8.out.trans (hbx.mono HB8.out.size))
          obtain ⟨A5, c5, rfl, hES5, hF5⟩ := ES_own hown5 hl5 (fun e he => (hR5 e he).1)
          have hr5 : ∀ e ∈ es5, ∀ p, e.A = some p → v4.ownBlock ≠ some p.block := fun e he p hp e' => by
            have h1 := ((hR5 e he).2 p hp).2.2
            have h2 := (own_block_lt H4.out.1 _ e').2
            omega
          have hr4 : ∀ e ∈ es4, RS w10 w10.heap.size e.A e.cap e.xs ∧ ∀ p, e.A = some p → v4.ownBlock ≠ some p.block := fun e he => ⟨(((H4.out.2.2.1 e he).1).below hbx).mono hbx.size, fun p hp => (((H4.out.2.2.1 e he).2) p hp).2.1⟩
          have H5 := Lib.hid (And.intro (ownsRow_below H4.out.1 hbx) (And.intro hr4 (And.intro hES5 (And.intro hF5 (And.intro hr5 HB8.out.size)))))
          have HS5 := Lib.hid hs5
          clear hown5 hR5 hr5 hr4 hES5 hF5 hs5 hbx
          obtain ⟨A4, c4, hv4⟩ := own_form H4.out.1
          subst hv4
          go_wp2_with (at_builtin; refine wpList_append_two (by rfl) (.tmp 54) (.tmp 56) (by rfl) w8.heap.size _ n es4 (by rfl) H5.out.1 H4.out.2.1 H5.out.2.1 A5 c5 es5 (by rw [hl5]; rfl) H5.out.2.2.1 H5.out.2.2.2.1 H5.out.2.2.2.2.1 (by omega) H5.out.2.2.2.2.2 ?_)
          intro A6 c6 w11 hES6 hF6 hb11
          have hN := new_any o A6 c6 (es4 ++ es5) w11 hES6 hF6 (by rw [List.length_append, H4.out.2.1]; omega) (fun e he => by
            rcases List.mem_append.1 he with he | he
            · exact same2_small H4.out.2.2.2 HG.out.1.2 e he
            · exact same2_small HS5.out HG.out.1.2 e he)
          rw [List.length_append, H4.out.2.1, hl5] at hN
          have NW := Lib.hid hN
          have hok : (cls o && !(es4 ++ es5).any wrongE) = true := by
            have e := HY1.out
            rw [List.any_append, same2_any _ _ H4.out.2.2.2, same2_any _ _ HS5.out, Bool.or_self]
            exact e
          have HOK := Lib.hid hok
          have hbz := HB.out.trans (hb11.mono HW18.out)
          have HB := Lib.hid hbz
          have HB8 := Lib.hid (HB8.out.trans hb11)
          clear hN hok hES6 hF6 hb11 hbz
          go_wp2_with fail
          refine NW.out.mono ?_
          rintro e w12 ⟨hbx, hp⟩
          rw [if_pos HOK.out] at hp
          obtain ⟨T3, F3, rfl, hU, hFi, hT⟩ := hp
          have HT3 := Lib.hid hT
          have HF3 : Hid (∀ i : Nat, i < 1114112 → F3 i = tellE o es i) := Lib.hid (fun i hi => by rw [hFi i hi, fold_twice es4 es5 (HS5.out.trans H4.out.2.2.2.symm), same2_fold _ _ H4.out.2.2.2]; rfl)
          have hbz := HB.out.trans (hbx.mono HB.out.size)
          have HB := Lib.hid hbz
          have HB8 := Lib.hid (HB8.out.trans (hbx.mono HB8.out.size))
          have HT1 := Lib.hid (HT1.out.below HB8.out)
          have HT2 := Lib.hid (HT2.out.below HB8.out)
          clear hbz hU hFi hT hbx
          have CL := Lib.hid (tclasses_any T1 o F1 w12 HT1.out HF1.out.1)
          go_wp2_with fail
          refine CL.out.mono ?_
          rintro e w13 ⟨vk, p, rfl, hk, hp, hb13⟩
          have hbz := HB.out.trans (hb13.mono HB.out.size)
          have HB := Lib.hid hbz
          have HT1 := Lib.hid (HT1.out.below hb13)
          have HT2 := Lib.hid (HT2.out.below hb13)
          have HT3 := Lib.hid (HT3.out.below hb13)
          have hlk := filt_len p 256
          obtain ⟨cl, hcl⟩ : ∃ cl, (List.range 256).filter p = cl := ⟨_, rfl⟩
          have hmem : ∀ c ∈ cl, c < 256 := fun c hc => by rw [← hcl] at hc; exact List.mem_range.1 (List.mem_filter.1 hc).1
          have HCL := Lib.hid hcl
          have HPP := Lib.hid hp
          rw [hcl] at hk hlk
          obtain ⟨L, hL⟩ : ∃ L, cl.length = L := ⟨_, rfl⟩
          have HL := Lib.hid hL
          rw [hL] at hk hlk
          obtain ⟨Ak, ck, rfl⟩ := own_form hk
          have HK := Lib.hid (And.intro hk hmem)
          clear hbz hb13 hk hp hcl hL hmem
          go_wp2_with fail
          go_loopw [13, 15] (fun f i wr => ∃ j : Nat, i = .int .i64 (j : Int) ∧ j ≤ L ∧ f = .bool ((cl.take j).all (eqC F1 F2)) ∧ Below w13.heap.size w13 wr) (fun _ i _ => L - (RowKit.intOf i).toNat)
          case atStart => exact ⟨0, rfl, Nat.zero_le _, rfl, Below.refl _ _⟩
          case round =>
            obtain ⟨j, rfl, hj, rfl, hb⟩ := hrel
            by_cases hlj : j < L
            · obtain ⟨c, hc⟩ : ∃ c, cl[j]? = some c := ⟨cl[j]'(by rw [HL.out]; exact hlj), List.getElem?_eq_getElem _⟩
              have hc256 := HK.out.2 c (List.mem_of_getElem? hc)
              obtain ⟨g, cg, hvg, hg1, hg2⟩ := HK.out.1.form (by omega)
              simp only [Value.slice.injEq] at hvg
              obtain ⟨rfl, _, rfl⟩ := hvg
              have hcell := HK.out.1.cellAt j (by omega)
              have hci : (intsL cl)[j]? = some (.int .i64 (c : Int)) := by unfold intsL; rw [List.getElem?_map, hc]; rfl
              rw [hci] at hcell
              have hts : (cl.take (j + 1)).all (eqC F1 F2) = ((cl.take j).all (eqC F1 F2) && eqC F1 F2 c) := by rw [List.take_add_one, hc, List.all_append]; simp
              have i1 : (j : Int) < (L : Int) := by omega
              have j0 : (0 : Int) ≤ (j : Int) := by omega
              have HTS := Lib.hid hts
              have HCE := Lib.hid hcell
              have HB13 := Lib.hid hb
              clear hc hcell hci hts hb
              cases hq : (cl.take j).all (eqC F1 F2) with
              | true =>
                rw [hq, Bool.true_and] at HTS
                have HTS := Lib.hid HTS.out
                clear hq
                have S1 := Lib.hid (fun (W : World) (hW : Below w13.heap.size w13 W) => tset_sp T1 o F1 (c : Int) W (HT1.out.below hW) HF1.out.1 (by omega) (by omega))
                have S2 := Lib.hid (fun (W : World) (hW : Below w13.heap.size w13 W) => tset_sp T2 o F2 (c : Int) W (HT2.out.below hW) HF2.out.1 (by omega) (by omega))
                have HR := Lib.hid (And.intro (right_setC F1 (c : Int)) (right_setC F2 (c : Int)))
                have HTS : Hid ((cl.take (j + 1)).all (eqC F1 F2) = decide (setC F1 (c : Int) = setC F2 (c : Int))) := Lib.hid HTS.out
                generalize setC F1 (c : Int) = X1 at *
                generalize setC F2 (c : Int) = X2 at *
                go_wp2_with fail
                have HBD := Lib.hid (HB13.out.drew)
                refine wp_region_noPanic ?_
                refine wp_region_held_drew (S := fun W => Below w13.heap.size w13 W) (by kernel_rfl) HBD.out (fun hH => ?_)
                refine wpAnyH_take (i := 0) (oi := { dst := some 69, op := Op.move (Operand.tmp 13), type := 4, pos := "law.go:126", after := #[], guard := none }) (v := ?_) rfl (by kernel_rfl) (by kernel_rfl) (by kernel_rfl) (fun _ _ _ h => h) (Or.inl ⟨by rfl, ?_⟩) (by exact hH) ?_
                rotate_left
                · intro W hSw
                  go_simp
                  try with_reducible rfl
                try simp only [Act.put, List.setIfInBounds_toArray, List.set_cons_zero, List.set_cons_succ]
                refine wpAnyH_take (i := 1) (oi := { dst := some 70, op := Op.move (Operand.tmp 69), type := 4, pos := "law.go:126", after := #[{ on := 0, ground := Ground.data }], guard := none }) (v := ?_) rfl (by kernel_rfl) (by kernel_rfl) (by kernel_rfl) (fun _ _ _ h => h) (Or.inl ⟨by rfl, ?_⟩) (by exact hH) ?_
                rotate_left
                · intro W hSw
                  go_simp
                  try with_reducible rfl
                try simp only [Act.put, List.setIfInBounds_toArray, List.set_cons_zero, List.set_cons_succ]
                refine wpAnyH_take (i := 2) (oi := { dst := some 71, op := Op.move (Operand.tmp 7), type := 26, pos := "law.go:126", after := #[{ on := 1, ground := Ground.guard }], guard := some (1, true) }) (v := ?_) rfl (by kernel_rfl) (by kernel_rfl) (by kernel_rfl) (fun _ _ _ h => h) (Or.inl ⟨by rfl, ?_⟩) (by exact hH) ?_
                rotate_left
                · intro W hSw
                  go_simp
                  try with_reducible rfl
                try simp only [Act.put, List.setIfInBounds_toArray, List.set_cons_zero, List.set_cons_succ]
                refine wpAnyH_take (i := 3) (oi := { dst := some 72, op := Op.move (Operand.tmp 14), type := 49, pos := "law.go:126", after := #[{ on := 1, ground := Ground.guard }], guard := some (1, true) }) (v := ?_) rfl (by kernel_rfl) (by kernel_rfl) (by kernel_rfl) (fun _ _ _ h => h) (Or.inl ⟨by rfl, ?_⟩) (by exact hH) ?_
                rotate_left
                · intro W hSw
                  go_simp
                  try with_reducible rfl
                try simp only [Act.put, List.setIfInBounds_toArray, List.set_cons_zero, List.set_cons_succ]
                refine wpAnyH_take (i := 4) (oi := { dst := some 73, op := Op.move (Operand.tmp 15), type := 3, pos := "law.go:126", after := #[{ on := 1, ground := Ground.guard }], guard := some (1, true) }) (v := ?_) rfl (by kernel_rfl) (by kernel_rfl) (by kernel_rfl) (fun _ _ _ h => h) (Or.inl ⟨by rfl, ?_⟩) (by exact hH) ?_
                rotate_left
                · intro W hSw
                  go_simp
                  try with_reducible rfl
                try simp only [Act.put, List.setIfInBounds_toArray, List.set_cons_zero, List.set_cons_succ]
                refine wpAnyH_take (i := 5) (oi := { dst := some 74, op := Op.indexAddr 49 (Operand.tmp 72) (Operand.tmp 73), type := 0, pos := "law.go:126", after := #[{ on := 3, ground := Ground.data }, { on := 4, ground := Ground.data }, { on := 1, ground := Ground.guard }], guard := some (1, true) }) (v := ?_) rfl (by kernel_rfl) (by kernel_rfl) (by kernel_rfl) (fun _ _ _ h => h) (Or.inl ⟨by rfl, ?_⟩) (by exact hH) ?_
                rotate_left
                · intro W hSw
                  go_simp
                  try with_reducible rfl
                try simp only [Act.put, List.setIfInBounds_toArray, List.set_cons_zero, List.set_cons_succ]
                refine wpAnyH_take (i := 6) (oi := { dst := some 75, op := Op.load 3 (Operand.tmp 74), type := 3, pos := "law.go:126", after := #[{ on := 5, ground := Ground.data }, { on := 1, ground := Ground.guard }], guard := some (1, true) }) (v := ?_) rfl (by kernel_rfl) (by kernel_rfl) (by kernel_rfl) (fun _ _ _ h => h) (Or.inl ⟨by rfl, ?_⟩) (by exact hH) ?_
                rotate_left
                · intro W hSw
                  have p := (hSw.cell (p := ⟨g, j, none⟩) hg2).trans HCE.out
                  go_simp
                  try with_reducible rfl
                try simp only [Act.put, List.setIfInBounds_toArray, List.set_cons_zero, List.set_cons_succ]
                refine wpAnyH_take (i := 8) (oi := { dst := some 77, op := Op.move (Operand.tmp 9), type := 26, pos := "law.go:126", after := #[{ on := 1, ground := Ground.guard }], guard := some (1, true) }) (v := ?_) rfl (by kernel_rfl) (by kernel_rfl) (by kernel_rfl) (fun _ _ _ h => h) (Or.inl ⟨by rfl, ?_⟩) (by exact hH) ?_
                rotate_left
                · intro W hSw
                  go_simp
                  try with_reducible rfl
                try simp only [Act.put, List.setIfInBounds_toArray, List.set_cons_zero, List.set_cons_succ]
                refine wpAnyH_take (i := 9) (oi := { dst := some 78, op := Op.move (Operand.tmp 14), type := 49, pos := "law.go:126", after := #[{ on := 1, ground := Ground.guard }], guard := some (1, true) }) (v := ?_) rfl (by kernel_rfl) (by kernel_rfl) (by kernel_rfl) (fun _ _ _ h => h) (Or.inl ⟨by rfl, ?_⟩) (by exact hH) ?_
                rotate_left
                · intro W hSw
                  go_simp
                  try with_reducible rfl
                try simp only [Act.put, List.setIfInBounds_toArray, List.set_cons_zero, List.set_cons_succ]
                refine wpAnyH_take (i := 10) (oi := { dst := some 79, op := Op.move (Operand.tmp 15), type := 3, pos := "law.go:126", after := #[{ on := 1, ground := Ground.guard }], guard := some (1, true) }) (v := ?_) rfl (by kernel_rfl) (by kernel_rfl) (by kernel_rfl) (fun _ _ _ h => h) (Or.inl ⟨by rfl, ?_⟩) (by exact hH) ?_
                rotate_left
                · intro W hSw
                  go_simp
                  try with_reducible rfl
                try simp only [Act.put, List.setIfInBounds_toArray, List.set_cons_zero, List.set_cons_succ]
                refine wpAnyH_take (i := 11) (oi := { dst := some 80, op := Op.indexAddr 49 (Operand.tmp 78) (Operand.tmp 79), type := 0, pos := "law.go:126", after := #[{ on := 9, ground := Ground.data }, { on := 10, ground := Ground.data }, { on := 1, ground := Ground.guard }], guard := some (1, true) }) (v := ?_) rfl (by kernel_rfl) (by kernel_rfl) (by kernel_rfl) (fun _ _ _ h => h) (Or.inl ⟨by rfl, ?_⟩) (by exact hH) ?_
                rotate_left
                · intro W hSw
                  go_simp
                  try with_reducible rfl
                try simp only [Act.put, List.setIfInBounds_toArray, List.set_cons_zero, List.set_cons_succ]
                refine wpAnyH_take (i := 12) (oi := { dst := some 81, op := Op.load 3 (Operand.tmp 80), type := 3, pos := "law.go:126", after := #[{ on := 11, ground := Ground.data }, { on := 1, ground := Ground.guard }], guard := some (1, true) }) (v := ?_) rfl (by kernel_rfl) (by kernel_rfl) (by kernel_rfl) (fun _ _ _ h => h) (Or.inl ⟨by rfl, ?_⟩) (by exact hH) ?_
                rotate_left
                · intro W hSw
                  have p := (hSw.cell (p := ⟨g, j, none⟩) hg2).trans HCE.out
                  go_simp
                  try with_reducible rfl
                try simp only [Act.put, List.setIfInBounds_toArray, List.set_cons_zero, List.set_cons_succ]
                refine wpAnyH_ready (rs := [7]) (by kernel_rfl) (by simp) ?_
                refine AllReadyH.cons (o := { dst := some 76, op := Op.call { callee := Callee.value (Operand.func 20), args := #[Operand.tmp 71, Operand.tmp 75], argTypes := #[26, 3] }, type := 43, pos := "law.go:126", after := #[{ on := 2, ground := Ground.data }, { on := 6, ground := Ground.data }, { on := 1, ground := Ground.chain }, { on := 1, ground := Ground.guard }], guard := some (1, true) }) rfl (fun K hK => ?_) AllReadyH.nil
                go_simp
                go_at_call 20
                refine (S1.out _ HBD.out).mono ?_
                rintro e w14 ⟨AX, cX, rfl, hSX, hbx⟩
                have HBD := Lib.hid (HBD.out.trans (hbx.mono HBD.out.size))
                have HSX := Lib.hid hSX
                clear hbx hSX
                go_wp2_with fail
                refine hK.out _ _ HBD.out (fun hH => ?_)
                clear hK K
                try simp only [Act.put, List.setIfInBounds_toArray, List.set_cons_zero, List.set_cons_succ]
                refine wpAnyH_ready (rs := [13]) (by kernel_rfl) (by simp) ?_
                refine AllReadyH.cons (o := { dst := some 82, op := Op.call { callee := Callee.value (Operand.func 20), args := #[Operand.tmp 77, Operand.tmp 81], argTypes := #[26, 3] }, type := 43, pos := "law.go:126", after := #[{ on := 8, ground := Ground.data }, { on := 12, ground := Ground.data }, { on := 7, ground := Ground.chain }, { on := 1, ground := Ground.guard }], guard := some (1, true) }) rfl (fun K hK => ?_) AllReadyH.nil
                go_simp
                go_at_call 20
                refine (S2.out _ HBD.out).mono ?_
                rintro e w15 ⟨AY, cY, rfl, hSY, hbx⟩
                have HBD := Lib.hid (HBD.out.trans (hbx.mono HBD.out.size))
                have HSX := Lib.hid (HSX.out.below hbx)
                have HSY := Lib.hid hSY
                clear hbx hSY
                have RS := Lib.hid (rsame_sp AX cX X1 AY cY X2 w15 HSX.out HSY.out HR.out.1 HR.out.2)
                go_wp2_with fail
                refine hK.out _ _ HBD.out (fun hH => ?_)
                clear hK K
                try simp only [Act.put, List.setIfInBounds_toArray, List.set_cons_zero, List.set_cons_succ]
                refine wpAnyH_ready (rs := [14]) (by kernel_rfl) (by simp) ?_
                refine AllReadyH.cons (o := { dst := some 83, op := Op.call { callee := Callee.value (Operand.func 26), args := #[Operand.tmp 76, Operand.tmp 82], argTypes := #[43, 43] }, type := 4, pos := "law.go:126", after := #[{ on := 7, ground := Ground.data }, { on := 13, ground := Ground.data }, { on := 13, ground := Ground.chain }, { on := 1, ground := Ground.guard }], guard := some (1, true) }) rfl (fun K hK => ?_) AllReadyH.nil
                go_simp
                go_at_call 26
                refine RS.out.mono ?_
                rintro e w16 ⟨rfl, hbx⟩
                have HBD := Lib.hid (HBD.out.trans (hbx.mono HBD.out.size))
                clear hbx
                go_wp2_with fail
                refine hK.out _ _ HBD.out (fun hH => ?_)
                clear hK K
                try simp only [Act.put, List.setIfInBounds_toArray, List.set_cons_zero, List.set_cons_succ]
                refine wpAnyH_take (i := 15) (oi := { dst := some 84, op := Op.pick (Operand.tmp 70) (Operand.tmp 83) (Operand.const (Value.bool false)), type := 4, pos := "law.go:126", after := #[{ on := 1, ground := Ground.data }, { on := 14, ground := Ground.data }], guard := none }) (v := ?_) rfl (by kernel_rfl) (by kernel_rfl) (by kernel_rfl) (fun _ _ _ h => h) (Or.inl ⟨by rfl, ?_⟩) (by exact hH) ?_
                rotate_left
                · intro W hSw
                  go_simp
                  try with_reducible rfl
                try simp only [Act.put, List.setIfInBounds_toArray, List.set_cons_zero, List.set_cons_succ]
                refine wpAnyH_take (i := 16) (oi := { dst := some 13, op := Op.assign (Operand.tmp 84), type := 4, pos := "law.go:126", after := #[{ on := 15, ground := Ground.data }, { on := 14, ground := Ground.chain }, { on := 0, ground := Ground.phase }, { on := 1, ground := Ground.phase }, { on := 2, ground := Ground.phase }, { on := 3, ground := Ground.phase }, { on := 4, ground := Ground.phase }, { on := 5, ground := Ground.phase }, { on := 6, ground := Ground.phase }, { on := 7, ground := Ground.phase }, { on := 8, ground := Ground.phase }, { on := 9, ground := Ground.phase }, { on := 10, ground := Ground.phase }, { on := 11, ground := Ground.phase }, { on := 12, ground := Ground.phase }, { on := 13, ground := Ground.phase }, { on := 14, ground := Ground.phase }, { on := 15, ground := Ground.phase }], guard := none }) (v := ?_) rfl (by kernel_rfl) (by kernel_rfl) (by kernel_rfl) (fun _ _ _ h => h) (Or.inl ⟨by rfl, ?_⟩) (by exact hH) ?_
                rotate_left
                · intro W hSw
                  go_simp
                  try with_reducible rfl
                try simp only [Act.put, List.setIfInBounds_toArray, List.set_cons_zero, List.set_cons_succ]
                refine wpAnyH_done (by kernel_rfl) ?_ _
                refine NoPanic.normal ?_
                generalize decide (X1 = X2) = bq at *
                go_wp2_with fail
                go_roundw
                case rel => exact ⟨j + 1, by go_num, by omega, by rw [HTS.out], HBD.out⟩
                case measure => simp [RowKit.intOf]; omega
              | false =>
                rw [hq, Bool.false_and] at HTS
                have HTS := Lib.hid HTS.out
                clear hq
                go_wp2_with fail
                have HBD := Lib.hid (HB13.out.drew)
                refine wp_region_noPanic ?_
                refine wp_region_held_drew (S := fun W => Below w13.heap.size w13 W) (by kernel_rfl) HBD.out (fun hH => ?_)
                refine wpAnyH_take (i := 0) (oi := { dst := some 69, op := Op.move (Operand.tmp 13), type := 4, pos := "law.go:126", after := #[], guard := none }) (v := ?_) rfl (by kernel_rfl) (by kernel_rfl) (by kernel_rfl) (fun _ _ _ h => h) (Or.inl ⟨by rfl, ?_⟩) (by exact hH) ?_
                rotate_left
                · intro W hSw
                  go_simp
                  try with_reducible rfl
                try simp only [Act.put, List.setIfInBounds_toArray, List.set_cons_zero, List.set_cons_succ]
                refine wpAnyH_take (i := 1) (oi := { dst := some 70, op := Op.move (Operand.tmp 69), type := 4, pos := "law.go:126", after := #[{ on := 0, ground := Ground.data }], guard := none }) (v := ?_) rfl (by kernel_rfl) (by kernel_rfl) (by kernel_rfl) (fun _ _ _ h => h) (Or.inl ⟨by rfl, ?_⟩) (by exact hH) ?_
                rotate_left
                · intro W hSw
                  go_simp
                  try with_reducible rfl
                try simp only [Act.put, List.setIfInBounds_toArray, List.set_cons_zero, List.set_cons_succ]
                refine wpAnyH_take (i := 2) (oi := { dst := some 71, op := Op.move (Operand.tmp 7), type := 26, pos := "law.go:126", after := #[{ on := 1, ground := Ground.guard }], guard := some (1, true) }) (v := undef) rfl (by kernel_rfl) (by kernel_rfl) (by kernel_rfl) (fun _ _ _ h => h) (Or.inr ⟨by rfl, rfl⟩) (by exact hH) ?_
                try simp only [Act.put, List.setIfInBounds_toArray, List.set_cons_zero, List.set_cons_succ]
                refine wpAnyH_take (i := 3) (oi := { dst := some 72, op := Op.move (Operand.tmp 14), type := 49, pos := "law.go:126", after := #[{ on := 1, ground := Ground.guard }], guard := some (1, true) }) (v := undef) rfl (by kernel_rfl) (by kernel_rfl) (by kernel_rfl) (fun _ _ _ h => h) (Or.inr ⟨by rfl, rfl⟩) (by exact hH) ?_
                try simp only [Act.put, List.setIfInBounds_toArray, List.set_cons_zero, List.set_cons_succ]
                refine wpAnyH_take (i := 4) (oi := { dst := some 73, op := Op.move (Operand.tmp 15), type := 3, pos := "law.go:126", after := #[{ on := 1, ground := Ground.guard }], guard := some (1, true) }) (v := undef) rfl (by kernel_rfl) (by kernel_rfl) (by kernel_rfl) (fun _ _ _ h => h) (Or.inr ⟨by rfl, rfl⟩) (by exact hH) ?_
                try simp only [Act.put, List.setIfInBounds_toArray, List.set_cons_zero, List.set_cons_succ]
                refine wpAnyH_take (i := 5) (oi := { dst := some 74, op := Op.indexAddr 49 (Operand.tmp 72) (Operand.tmp 73), type := 0, pos := "law.go:126", after := #[{ on := 3, ground := Ground.data }, { on := 4, ground := Ground.data }, { on := 1, ground := Ground.guard }], guard := some (1, true) }) (v := undef) rfl (by kernel_rfl) (by kernel_rfl) (by kernel_rfl) (fun _ _ _ h => h) (Or.inr ⟨by rfl, rfl⟩) (by exact hH) ?_
                try simp only [Act.put, List.setIfInBounds_toArray, List.set_cons_zero, List.set_cons_succ]
                refine wpAnyH_take (i := 6) (oi := { dst := some 75, op := Op.load 3 (Operand.tmp 74), type := 3, pos := "law.go:126", after := #[{ on := 5, ground := Ground.data }, { on := 1, ground := Ground.guard }], guard := some (1, true) }) (v := undef) rfl (by kernel_rfl) (by kernel_rfl) (by kernel_rfl) (fun _ _ _ h => h) (Or.inr ⟨by rfl, rfl⟩) (by exact hH) ?_
                try simp only [Act.put, List.setIfInBounds_toArray, List.set_cons_zero, List.set_cons_succ]
                refine wpAnyH_take (i := 7) (oi := { dst := some 76, op := Op.call { callee := Callee.value (Operand.func 20), args := #[Operand.tmp 71, Operand.tmp 75], argTypes := #[26, 3] }, type := 43, pos := "law.go:126", after := #[{ on := 2, ground := Ground.data }, { on := 6, ground := Ground.data }, { on := 1, ground := Ground.chain }, { on := 1, ground := Ground.guard }], guard := some (1, true) }) (v := undef) rfl (by kernel_rfl) (by kernel_rfl) (by kernel_rfl) (fun _ _ _ h => h) (Or.inr ⟨by rfl, rfl⟩) (by exact hH) ?_
                try simp only [Act.put, List.setIfInBounds_toArray, List.set_cons_zero, List.set_cons_succ]
                refine wpAnyH_take (i := 8) (oi := { dst := some 77, op := Op.move (Operand.tmp 9), type := 26, pos := "law.go:126", after := #[{ on := 1, ground := Ground.guard }], guard := some (1, true) }) (v := undef) rfl (by kernel_rfl) (by kernel_rfl) (by kernel_rfl) (fun _ _ _ h => h) (Or.inr ⟨by rfl, rfl⟩) (by exact hH) ?_
                try simp only [Act.put, List.setIfInBounds_toArray, List.set_cons_zero, List.set_cons_succ]
                refine wpAnyH_take (i := 9) (oi := { dst := some 78, op := Op.move (Operand.tmp 14), type := 49, pos := "law.go:126", after := #[{ on := 1, ground := Ground.guard }], guard := some (1, true) }) (v := undef) rfl (by kernel_rfl) (by kernel_rfl) (by kernel_rfl) (fun _ _ _ h => h) (Or.inr ⟨by rfl, rfl⟩) (by exact hH) ?_
                try simp only [Act.put, List.setIfInBounds_toArray, List.set_cons_zero, List.set_cons_succ]
                refine wpAnyH_take (i := 10) (oi := { dst := some 79, op := Op.move (Operand.tmp 15), type := 3, pos := "law.go:126", after := #[{ on := 1, ground := Ground.guard }], guard := some (1, true) }) (v := undef) rfl (by kernel_rfl) (by kernel_rfl) (by kernel_rfl) (fun _ _ _ h => h) (Or.inr ⟨by rfl, rfl⟩) (by exact hH) ?_
                try simp only [Act.put, List.setIfInBounds_toArray, List.set_cons_zero, List.set_cons_succ]
                refine wpAnyH_take (i := 11) (oi := { dst := some 80, op := Op.indexAddr 49 (Operand.tmp 78) (Operand.tmp 79), type := 0, pos := "law.go:126", after := #[{ on := 9, ground := Ground.data }, { on := 10, ground := Ground.data }, { on := 1, ground := Ground.guard }], guard := some (1, true) }) (v := undef) rfl (by kernel_rfl) (by kernel_rfl) (by kernel_rfl) (fun _ _ _ h => h) (Or.inr ⟨by rfl, rfl⟩) (by exact hH) ?_
                try simp only [Act.put, List.setIfInBounds_toArray, List.set_cons_zero, List.set_cons_succ]
                refine wpAnyH_take (i := 12) (oi := { dst := some 81, op := Op.load 3 (Operand.tmp 80), type := 3, pos := "law.go:126", after := #[{ on := 11, ground := Ground.data }, { on := 1, ground := Ground.guard }], guard := some (1, true) }) (v := undef) rfl (by kernel_rfl) (by kernel_rfl) (by kernel_rfl) (fun _ _ _ h => h) (Or.inr ⟨by rfl, rfl⟩) (by exact hH) ?_
                try simp only [Act.put, List.setIfInBounds_toArray, List.set_cons_zero, List.set_cons_succ]
                refine wpAnyH_take (i := 13) (oi := { dst := some 82, op := Op.call { callee := Callee.value (Operand.func 20), args := #[Operand.tmp 77, Operand.tmp 81], argTypes := #[26, 3] }, type := 43, pos := "law.go:126", after := #[{ on := 8, ground := Ground.data }, { on := 12, ground := Ground.data }, { on := 7, ground := Ground.chain }, { on := 1, ground := Ground.guard }], guard := some (1, true) }) (v := undef) rfl (by kernel_rfl) (by kernel_rfl) (by kernel_rfl) (fun _ _ _ h => h) (Or.inr ⟨by rfl, rfl⟩) (by exact hH) ?_
                try simp only [Act.put, List.setIfInBounds_toArray, List.set_cons_zero, List.set_cons_succ]
                refine wpAnyH_take (i := 14) (oi := { dst := some 83, op := Op.call { callee := Callee.value (Operand.func 26), args := #[Operand.tmp 76, Operand.tmp 82], argTypes := #[43, 43] }, type := 4, pos := "law.go:126", after := #[{ on := 7, ground := Ground.data }, { on := 13, ground := Ground.data }, { on := 13, ground := Ground.chain }, { on := 1, ground := Ground.guard }], guard := some (1, true) }) (v := undef) rfl (by kernel_rfl) (by kernel_rfl) (by kernel_rfl) (fun _ _ _ h => h) (Or.inr ⟨by rfl, rfl⟩) (by exact hH) ?_
                try simp only [Act.put, List.setIfInBounds_toArray, List.set_cons_zero, List.set_cons_succ]
                refine wpAnyH_take (i := 15) (oi := { dst := some 84, op := Op.pick (Operand.tmp 70) (Operand.tmp 83) (Operand.const (Value.bool false)), type := 4, pos := "law.go:126", after := #[{ on := 1, ground := Ground.data }, { on := 14, ground := Ground.data }], guard := none }) (v := ?_) rfl (by kernel_rfl) (by kernel_rfl) (by kernel_rfl) (fun _ _ _ h => h) (Or.inl ⟨by rfl, ?_⟩) (by exact hH) ?_
                rotate_left
                · intro W hSw
                  go_simp
                  try with_reducible rfl
                try simp only [Act.put, List.setIfInBounds_toArray, List.set_cons_zero, List.set_cons_succ]
                refine wpAnyH_take (i := 16) (oi := { dst := some 13, op := Op.assign (Operand.tmp 84), type := 4, pos := "law.go:126", after := #[{ on := 15, ground := Ground.data }, { on := 14, ground := Ground.chain }, { on := 0, ground := Ground.phase }, { on := 1, ground := Ground.phase }, { on := 2, ground := Ground.phase }, { on := 3, ground := Ground.phase }, { on := 4, ground := Ground.phase }, { on := 5, ground := Ground.phase }, { on := 6, ground := Ground.phase }, { on := 7, ground := Ground.phase }, { on := 8, ground := Ground.phase }, { on := 9, ground := Ground.phase }, { on := 10, ground := Ground.phase }, { on := 11, ground := Ground.phase }, { on := 12, ground := Ground.phase }, { on := 13, ground := Ground.phase }, { on := 14, ground := Ground.phase }, { on := 15, ground := Ground.phase }], guard := none }) (v := ?_) rfl (by kernel_rfl) (by kernel_rfl) (by kernel_rfl) (fun _ _ _ h => h) (Or.inl ⟨by rfl, ?_⟩) (by exact hH) ?_
                rotate_left
                · intro W hSw
                  go_simp
                  try with_reducible rfl
                try simp only [Act.put, List.setIfInBounds_toArray, List.set_cons_zero, List.set_cons_succ]
                refine wpAnyH_done (by kernel_rfl) ?_ _
                refine NoPanic.normal ?_
                go_wp2_with fail
                go_roundw
                case rel => exact ⟨j + 1, by go_num, by omega, by rw [HTS.out], HBD.out⟩
                case measure => simp [RowKit.intOf]; omega
            · have hjL : j = L := by omega
              subst hjL
              have d1 : ¬ (j : Int) < (j : Int) := by omega
              have hq : (cl.take j).all (eqC F1 F2) = sameT F1 F2 := by
                rw [List.take_of_length_le (by rw [HL.out]; exact Nat.le_refl _), ← HCL.out]
                exact same_found p HF1.out.1 HPP.out (fun c _ => by
                  obtain ⟨xs, h1⟩ := tells_ex F1 (c : Int) 1114112 (Nat.le_refl _)
                  obtain ⟨ys, h2⟩ := tells_ex F2 (c : Int) 1114112 (Nat.le_refl _)
                  exact ⟨xs, ys, h1, h2⟩)
              rw [hq]
              have hsw : sameT F2 F1 = sameT F1 F2 := by
                rw [Bool.eq_iff_iff, sameT_iff, sameT_iff]
                exact ⟨fun h r hr => (h r hr).symm, fun h r hr => (h r hr).symm⟩
              have h13 : sameT F1 F3 = true := sameT_of (fun r hr => by rw [HF1.out.2 r hr, HF3.out r hr])
              have Q1 := Lib.hid (fun (W : World) (hW : Below w13.heap.size w13 W) => tsame_any T1 T2 o F1 F2 W (HT1.out.below hW) (HT2.out.below hW))
              have q2 := (fun (W : World) (hW : Below w13.heap.size w13 W) => tsame_any T2 T1 o F2 F1 W (HT2.out.below hW) (HT1.out.below hW))
              have q3 := (fun (W : World) (hW : Below w13.heap.size w13 W) => tsame_any T1 T3 o F1 F3 W (HT1.out.below hW) (HT3.out.below hW))
              rw [hsw] at q2
              rw [h13] at q3
              have Q2 := Lib.hid q2
              have Q3 := Lib.hid q3
              have HB13 := Lib.hid hb
              generalize sameT F1 F2 = sq at *
              clear hb q2 q3 hq hsw h13
              go_wp2_with fail
              refine (Q1.out _ HB13.out).mono ?_
              rintro e w14 ⟨rfl, hbx⟩
              have HB13 := Lib.hid (HB13.out.trans (hbx.mono HB13.out.size))
              clear hbx
              go_wp2_with fail
              refine (Q2.out _ HB13.out).mono ?_
              rintro e w15 ⟨rfl, hbx⟩
              have HB13 := Lib.hid (HB13.out.trans (hbx.mono HB13.out.size))
              clear hbx
              go_wp2_with fail
              refine (Q3.out _ HB13.out).mono ?_
              rintro e w16 ⟨rfl, hbx⟩
              have hbz := HB.out.trans ((HB13.out.trans (hbx.mono HB13.out.size)).mono HB.out.size)
              clear hbx
              go_wp2_with fail
              go_ret
              exact ⟨by simp, hbz⟩
end Go.Proofs.Ytphhdkffnboboaa

namespace Go.Proofs.Ytphhdkffnboboaa
open Go.RowKit Go.Shelf
open Go.Lib Go.Great Go.Maps

/-- All ranges of the first k entries. -/
def flatX (es : List En) (k : Nat) : List Rng := (es.take k).flatMap (·.xs)
theorem flatX_succ {es : List En} {k : Nat} {e : En} (h : es[k]? = some e) : flatX es (k + 1) = flatX es k ++ e.xs := by
  unfold flatX
  rw [List.take_add_one, h, List.flatMap_append]
  simp
theorem flatX_len {es : List En} (h : ∀ e ∈ es, e.xs.length ≤ 12) : ∀ k, (flatX es k).length ≤ 12 * k := by
  intro k
  induction k with
  | zero => simp [flatX]
  | succ k ih =>
    cases hk : es[k]? with
    | none =>
      have : es.take (k + 1) = es.take k := by rw [List.take_add_one, hk]; simp
      unfold flatX at *
      rw [this]
      omega
    | some e =>
      rw [flatX_succ hk, List.length_append]
      have := h e (List.mem_of_getElem? hk)
      omega
theorem flatX_mem {es : List En} {k : Nat} {x : Rng} (h : x ∈ flatX es k) : ∃ e ∈ es, x ∈ e.xs := by
  unfold flatX at h
  obtain ⟨e, he, hx⟩ := List.mem_flatMap.1 h
  exact ⟨e, List.mem_of_mem_take he, hx⟩
theorem flatX_all {es : List En} {e : En} (he : e ∈ es) {x : Rng} (hx : x ∈ e.xs) : x ∈ flatX es es.length := by
  unfold flatX
  rw [List.take_length]
  exact List.mem_flatMap.2 ⟨e, he, hx⟩
/-- Between two places nothing changes. -/
theorem getE_const {o : Int} {es : List En} {l : List Int} (h : PtsAll (flatX es es.length) l) {p q : Int} (hg : ∀ x ∈ l, x ≤ p ∨ q ≤ x) {r : Int} (h1 : p ≤ r) (h2 : r < q) : es.foldl (fun v e => if hasR e.xs r then e.c else v) o = es.foldl (fun v e => if hasR e.xs p then e.c else v) o := by
  have key : ∀ (l' : List En), (∀ e ∈ l', e ∈ es) → ∀ v : Int, l'.foldl (fun v e => if hasR e.xs r then e.c else v) v = l'.foldl (fun v e => if hasR e.xs p then e.c else v) v := by
    intro l'
    induction l' with
    | nil => intro _ v; rfl
    | cons x xs ih =>
      intro hm v
      rw [List.foldl_cons, List.foldl_cons]
      have hx := hm x (by simp)
      have : hasR x.xs r = hasR x.xs p := has_const (fun y hy => ⟨(h.m _).2 (.inr (.inr ⟨y, flatX_all hx hy, .inl rfl⟩)), (h.m _).2 (.inr (.inr ⟨y, flatX_all hx hy, .inr rfl⟩))⟩) hg h1 h2
      rw [this]
      exact ih (fun e he => hm e (by simp [he])) _
  exact key es (fun _ h => h) o
/-- What the loop holds: just the numbers of the class below a place. -/
def OutTo (o : Int) (es : List En) (c : Int) (out : List Rng) (p : Int) : Prop := (∀ x ∈ out, may x = true) ∧ ∀ r, hasR out r = true ↔ 0 ≤ r ∧ r < p ∧ es.foldl (fun v e => if hasR e.xs r then e.c else v) o = c
theorem out_start (o : Int) (es : List En) (c : Int) : OutTo o es c [] 0 := ⟨by simp, fun r => by simp [hasR]; omega⟩
theorem out_skip {o : Int} {es : List En} {c : Int} {out : List Rng} {p q : Int} (I : OutTo o es c out p) (hp : p < q) (hc : ∀ r, p ≤ r → r < q → es.foldl (fun v e => if hasR e.xs r then e.c else v) o = es.foldl (fun v e => if hasR e.xs p then e.c else v) o) (hf : es.foldl (fun v e => if hasR e.xs p then e.c else v) o ≠ c) : OutTo o es c out q := by
  refine ⟨I.1, fun r => ?_⟩
  rw [I.2 r]
  constructor
  · rintro ⟨a, b, d⟩; exact ⟨a, by omega, d⟩
  · rintro ⟨a, b, d⟩
    refine ⟨a, ?_, d⟩
    rcases Int.lt_or_le r p with e | e
    · exact e
    · rw [hc r e b] at d; exact absurd d hf
theorem out_push {o : Int} {es : List En} {c : Int} {out : List Rng} {p q : Int} (I : OutTo o es c out p) (hp : p < q) (h0 : 0 ≤ p) (hq : q ≤ 1114112) (hc : ∀ r, p ≤ r → r < q → es.foldl (fun v e => if hasR e.xs r then e.c else v) o = es.foldl (fun v e => if hasR e.xs p then e.c else v) o) (hf : es.foldl (fun v e => if hasR e.xs p then e.c else v) o = c) : OutTo o es c (out ++ [(p, q - 1)]) q := by
  refine ⟨fun x hx => ?_, fun r => ?_⟩
  · rcases List.mem_append.1 hx with hx | hx
    · exact I.1 x hx
    · simp at hx; subst hx; exact (may_iff _).2 ⟨by simp; omega, by simp; omega, by simp; omega⟩
  · rw [hasR_append, Bool.or_eq_true, I.2 r, hasR_cons_iff]
    simp only [hasR_nil, Bool.false_eq_true, or_false]
    constructor
    · rintro (⟨a, b, d⟩ | ⟨a, b⟩)
      · exact ⟨a, by omega, d⟩
      · exact ⟨by omega, by omega, by rw [hc r a (by omega)]; exact hf⟩
    · rintro ⟨a, b, d⟩
      rcases Int.lt_or_le r p with e | e
      · exact .inl ⟨a, e, d⟩
      · exact .inr ⟨e, by omega⟩
theorem out_set {o : Int} {es : List En} {c : Int} {out : List Rng} (I : OutTo o es c out 1114112) : norm (hasR out) = setC (tellE o es) c := by
  unfold setC
  congr 1
  funext r
  rw [Bool.eq_iff_iff, I.2 r, clsTo_iff]
  unfold tellE
  constructor
  · rintro ⟨a, b, d⟩
    refine ⟨a, by omega, ?_⟩
    rw [show ((r.toNat : Nat) : Int) = r by omega]
    exact d
  · rintro ⟨a, b, d⟩
    refine ⟨a, by omega, ?_⟩
    rw [show ((r.toNat : Nat) : Int) = r by omega] at d
    exact d
end Go.Proofs.Ytphhdkffnboboaa

