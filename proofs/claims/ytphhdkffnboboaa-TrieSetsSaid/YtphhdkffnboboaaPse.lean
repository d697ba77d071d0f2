/-
  Contracts: trie.share.
  Contracts: the ranges of a block.
  Contracts: (*trie.Trie).Get of a trie that share has made, and of none.
  The library's contracts at this dump: slices.ContainsFunc of entries.
  Entries of a trie: which are wrong; the set of all numbers.
  Contracts: whether any entry is wrong; the set of all numbers.
-/
import Derived.Laws.CopyOwn
import Derived.Test.YtphhdkffnboboaaPsd
import Derived.Test.YtphhdkffnboboaaPsc
import Derived.Laws.Rows
import Derived.Shelf.SlicesQ.IndexFunc
import Derived.Shelf.SlGeneric
import Derived.Ground.SlgfProg
import Derived.Ground.NamesProg
import Derived.Test.YtphhdkffnboboaaProg
import Derived.Test.YtphhdkffnboboaaPsb
namespace Go.Proofs.Ytphhdkffnboboaa
open Go.RowKit Go.Shelf
open Go.Lib Go.Great Go.Maps

theorem U8B.range {w : World} {B : Nat} {F : Nat → Int} (h : U8B w B F) {k : Nat} (hk : k < 4352) : w.rangeAt B (k * 256) (blc F k) := by
  intro j v hv
  have hj : j < 256 := by have := (List.getElem?_eq_some_iff.1 hv).1; rw [blc_len] at this; exact this
  rw [blc_get F k j hj] at hv
  rw [show k * 256 + j = 256 * k + j by omega, (h.cell (i := 256 * k + j) (by omega)).1]
  exact hv
def Z84 : Array Value := (List.replicate 256 (Value.int .u8 0)).toArray
theorem Z84_size : Z84.size = 256 := by unfold Z84; rw [List.size_toArray, List.length_replicate]
theorem blc_one (F : Nat → Int) (k : Nat) : (blc F k).toArray.all (·.oneCell') = true := by
  rw [Array.all_eq_true_iff_forall_mem]
  intro v hv
  simp only [List.mem_toArray, blc, List.mem_map] at hv
  obtain ⟨j, _, rfl⟩ := hv
  rfl
theorem size84 : (Try.prog.info? 84).map (·.size) = some 256 := by kernel_rfl

/-- Behind the store of a block into its own new variable. -/
theorem wpList_store84 {wr : World} {ops : Array Oper} {rest : List Oper} {o : Oper} {a : Act} {Q : Exit → Act → World → Prop} (hgd : o.guard = none) (x y : Operand) (ho : o.op = .store 84 x y) (hd : o.dst = none)
    (bl : List Value) (hl : bl.length = 256) (h1 : bl.toArray.all (·.oneCell') = true) (hx : a.eval x = .pointer (some ⟨wr.heap.size, 0, none⟩)) (hy : a.eval y = .agg bl.toArray)
    (h : ∀ W, W.heap[wr.heap.size]? = some (.cells bl.toArray 84 (0, 0)) → Below wr.heap.size wr W → W.heap.size = wr.heap.size + 1 → wpList Try.prog ops Q rest a W) : wpList Try.prog ops Q (o :: rest) a (wr.alloc (.cells Z84 84)) := by
  have hz : (wr.alloc (.cells Z84 84)).heap[wr.heap.size]? = some (.cells Z84 84 (0, 0)) := heap_alloc_new wr _
  refine wpList_store_row hgd 84 x y ho wr.heap.size bl.toArray hx hy 84 Z84 hz (by rw [size84]; simp [hl]) (by rw [Z84_size]; simp [hl]) h1 ?_
  rw [hd]
  refine h _ (setRow_heap _ _ _ _ _ _ hz) (below_setRow (below_new wr _) (Nat.le_refl _) _) ?_
  simp [World.setRow]
theorem grownB {w w' : World} (h : Below w.heap.size w w') (row : Option Nat) : w.grownBy w' row := ⟨h.os, h.tape, h.output, h.size, fun k hk _ => h.block k hk⟩
theorem ownsRow_form {w : World} {base : Nat} {e : TypeId} {size : Nat} {v : Value} {n : Nat} {xs : List Value} (h : w.ownsRow base e size v n xs) : ∃ A cap, v = .slice A n cap := by
  rcases h.2 with ⟨h1, h2⟩ | ⟨g, c, _, h1, _⟩
  · exact ⟨none, 0, by rw [h1, h2]⟩
  · exact ⟨_, c, h1⟩
theorem grown_setCell (w : World) (T j : Nat) (v : Value) : w.grownBy (w.setCell ⟨T, j, none⟩ v) (some T) := ⟨rfl, rfl, rfl, by simp [World.setCell], fun k _ hk => Below.heap_setCell _ _ _ _ (fun e => hk (by rw [e]))⟩
theorem own_apart {w : World} {base : Nat} {e : TypeId} {size : Nat} {v : Value} {n : Nat} {xs : List Value} (h : w.ownsRow base e size v n xs) {T : Nat} (hT : T < base) : v.ownBlock = none ∨ v.ownBlock ≠ some T := by
  rcases hb : v.ownBlock with _ | g
  · exact .inl rfl
  · right
    have := (h.lt g hb).1
    intro e
    injection e with e
    omega
theorem But.grown {T : Nat} {w W w1 : World} {row : Option Nat} (h : But T w W) (hg : W.grownBy w1 row) (hr : ∀ r, row = some r → w.heap.size ≤ r ∨ r = T) : But T w w1 :=
  ⟨hg.os.trans h.os, hg.tape.trans h.tape, hg.output.trans h.output, Nat.le_trans h.size hg.size, fun k hk hn => (hg.block k (Nat.lt_of_lt_of_le hk h.size) (fun e => by
    rcases hr k e.symm with q | q
    · omega
    · exact hn q)).trans (h.block k hk hn)⟩
theorem own_not_map {H : Type} {w : World} {base : Nat} {e : TypeId} {size : Nat} {v : Value} {n : Nat} {xs : List Value} {P : Program} {k : TypeId} {R : Value → Option (DataW H × List MemPlace)} {M c : Nat} {D : DataW H}
    (h : w.ownsRow base e size v n xs) (hm : w.ownsMap P k R M c D) : v.ownBlock = none ∨ v.ownBlock ≠ some M := by
  rcases h.2 with ⟨h1, h2⟩ | ⟨g, cp, cur, h1, h2, h3, _⟩
  · left; rw [h1]; rfl
  · right
    rw [h1]
    intro e
    have e : g = M := by simpa [Value.ownBlock] using e
    obtain ⟨es, clock, hb, _⟩ := hm
    rw [e, hb] at h3
    cases h3

attribute [local irreducible] Z84 blc dd rf

set_option maxHeartbeats 4000000 in
set_option maxRecDepth 100000 in
theorem share_any (T B : Nat) (ov : Value) (F : Nat → Int) (w : World) (hT : TB w T ov (fun _ => 0) (.slice none 0 0)) (hU : U8B w B F) (hF : U8 F) (hne : T ≠ B) :
    Calls Try.prog 45 #[.pointer (some ⟨T, 0, none⟩), .slice (some ⟨B, 0, none⟩) 4352 4352] w fun e w' => e = .returned (.tuple #[]) ∧ But T w w' ∧
      ∃ S, TB w' T ov (fun t => (rf F 4352 t : Nat)) S ∧ w'.ownsRow w.heap.size 84 256 S (dd F 4352).length ((dd F 4352).flatMap (blc F)) := by
  obtain ⟨kl, hkl⟩ := KL.ex F hF
  have hTl := hT.lt
  have hUl := hU.lt
  have hown0 := World.ownsMap_made (H := Unit) w Try.prog 84 (plainElem Try.prog 3)
  have hmm := @run_makeMap Try.prog
  have hT0 := hT.kept ((below_new w (.map #[] 0)).block T hTl)
  have hB0 : But T w (w.alloc (.map #[] 0)) := But.of_below (below_new w (.map #[] 0))
  obtain ⟨R, hR⟩ : ∃ R : Ending → World → Prop, R = fun e w' => e = .returned (.tuple #[]) ∧ But T w w' ∧ ∃ S, TB w' T ov (fun t => (rf F 4352 t : Nat)) S ∧ w'.ownsRow w.heap.size 84 256 S (dd F 4352).length ((dd F 4352).flatMap (blc F)) := ⟨_, rfl⟩
  have HR := Lib.hid hR
  rw [← hR]
  clear hR
  go_enter Try.func45, Try.ntmps45
  go_wp2_with fail
  generalize hW0 : w.alloc (.map #[] 0) = W0 at *
  generalize hM : w.heap.size = M at *
  have H0 := Lib.hid (And.intro hT0 (And.intro hU (And.intro hB0 hown0)))
  have HL := Lib.hid (And.intro hTl hUl)
  have HM := Lib.hid hM
  have HF := Lib.hid hF
  have HK := Lib.hid hkl
  clear hT0 hB0 hown0 hW0 hM hF hkl hT hU hTl hUl
  go_wp2_with fail
  go_loopw [12] (fun i wr => ∃ k : Nat, i = .int .i64 k ∧ k ≤ 4352 ∧ But T w wr ∧ ∃ S D, TB wr T ov (fun t => if t < k then (rf F k t : Nat) else 0) S ∧ wr.ownsRow M 84 256 S (dd F k).length ((dd F k).flatMap (blc F)) ∧ wr.ownsMap (H := Unit) Try.prog 84 (plainElem Try.prog 3) M k D ∧ Seen F kl k D) (fun i _ => 4352 - (RowKit.intOf i).toNat)
  case atStart =>
    refine ⟨0, rfl, by omega, H0.out.2.2.1, _, _, H0.out.1.congr (fun i _ => by simp), ?_, H0.out.2.2.2, Seen.zero F kl⟩
    have e : dd F 0 = [] := by unfold dd; rfl
    rw [e]
    exact ⟨rfl, .inl ⟨rfl, rfl⟩⟩
  case round =>
    obtain ⟨k, rfl, hk, hb, S, D, hT, hS, hM, hD⟩ := hrel
    by_cases hlt : k < 4352
    · have i1 : (k : Int) < 4352 := by omega
      have hrg : wr.rangeAt B (k * 256) (blc F k) := (H0.out.2.1.kept (hb.block B (by rw [HM.out]; exact HL.out.2) hne.symm)).range hlt
      have HH := Lib.hid (And.intro hT (And.intro hS (And.intro hM (And.intro hD hb))))
      have HRG := Lib.hid hrg
      have hMl := hM.lt
      clear hT hS hM hb hD hrg
      go_wp2_with (first
        | (refine wpList_load_mid rfl 84 (.tmp 15) rfl B (k * 256) rfl (blc F k) (.array 256 5) HRG.out Try.underlying84 rfl (by rw [blc_len]; exact size84) ?_)
        | (refine wpList_allocTo rfl (some 6) rfl (.pointer (some ⟨wr.heap.size, 0, none⟩)) (.cells Z84 84) (by as_aux_lemma => kernel_rfl) ?_)
        | (refine wpList_store84 rfl (.tmp 6) (.tmp 16) rfl rfl (blc F k) (blc_len F k) (blc_one F k) rfl rfl ?_)
        | go_in)
      intro W hWN hWb hWs
      have hT := HH.out.1.kept (hWb.block T HH.out.1.lt)
      have hS := HH.out.2.1.kept (grownB hWb none) (by rcases hn : S.ownBlock with _ | g; exact .inl rfl; exact .inr (by simp))
      have hM := HH.out.2.2.1.kept (grownB hWb none) (by simp)
      have hD := HH.out.2.2.2.1
      have hb := HH.out.2.2.2.2.trans (But.of_below (B := T) hWb)
      clear HH HRG hWb
      generalize wr.heap.size = N at *
      obtain ⟨A, cap, rfl⟩ := ownsRow_form hS
      have hhas := hD.has k
      have hlen := dd_len F k
      by_cases hany : (dd F k).any (fun t => sameB F t k) = true
      · rw [hany] at hhas
        have hat_ := hD.at_ k hany
        obtain ⟨r1, r2⟩ := hT.ref hlt
        have HA := Lib.hid (And.intro hT (And.intro hS (And.intro hM (And.intro hD (And.intro hb (And.intro hany hat_))))))
        have HW := Lib.hid hWN
        clear hT hS hD hb hany hat_ hWN
        go_wp2_with (first
          | (refine wpList_load_row rfl 84 (.tmp 6) rfl N rfl 84 (blc F k).toArray (0, 0) (.array 256 5) HW.out Try.underlying84 rfl (by rw [size84]; simp [blc_len]) ?_)
          | (at_lookup; refine wpList_lookup_own_ok_int _ rfl _ _ 113 rfl 84 3 .i64 law84 Try.underlying113 Try.underlying3 (Try.zeroValue3 _) M k D rfl hM _ (kl k) rfl (HK.out k) ?_; intro c hat hwc)
          | go_in)
        go_roundw
        case rel =>
          obtain ⟨hT, hS, hM, hD, hb, hany, hat_⟩ := HA.out
          have hc : c = ((rf F k k : Nat) : Int) := by rw [hat_] at hat; simpa using hat.symm
          have e : dd F (k + 1) = dd F k := by rw [dd_succ, if_pos hany]
          refine ⟨k + 1, by go_num, by omega, hb.trans (But.setCell W (1 + k) (.int .i64 c)), .slice A (dd F k).length cap, D, (hT.setRef hlt c).congr (fun t _ => ?_), ?_, (hM.kept (grown_setCell W T (1 + k) (.int .i64 c)) (by intro e; have := HL.out.1; simp at e; omega)).mono (by omega), hD.old hany⟩
          · by_cases c1 : t = k
            · subst c1
              rw [if_pos rfl, if_pos (by omega), hc, rf_keep F t t hany]
            · rw [if_neg c1]
              by_cases c2 : t < k
              · rw [if_pos c2, if_pos (by omega), rf_keep F k t (dd_has F k t c2)]
              · rw [if_neg c2, if_neg (by omega)]
          · rw [e]
            exact hS.kept (grown_setCell W T (1 + k) (.int .i64 c)) (own_apart hS HL.out.1)
        case measure => simp [RowKit.intOf]; omega
      · have hany : (dd F k).any (fun t => sameB F t k) = false := by simpa using hany
        rw [hany] at hhas
        obtain ⟨q1, q2⟩ := hT.slice
        have HA := Lib.hid (And.intro hT (And.intro hS (And.intro hM (And.intro hD (And.intro hb hany)))))
        have HW := Lib.hid hWN
        generalize hn : (dd F k).length = n at *
        have HN := Lib.hid hn
        clear hT hS hD hb hany hWN hn
        go_wp2_with (first
          | (refine wpList_load_row rfl 84 (.tmp 6) rfl N rfl 84 (blc F k).toArray (0, 0) (.array 256 5) HW.out Try.underlying84 rfl (by rw [size84]; simp [blc_len]) ?_)
          | (at_lookup; refine wpList_lookup_own_ok_int _ rfl _ _ 113 rfl 84 3 .i64 law84 Try.underlying113 Try.underlying3 (Try.zeroValue3 _) M k D rfl hM _ (kl k) rfl (HK.out k) ?_; intro c hat hwc)
          | (at_mapUpdate; refine wpList_mapUpdate_own _ rfl _ _ _ 113 rfl 84 3 law84 Try.underlying113 _ M k D rfl hM (by unfold maxLen; omega) _ _ (kl k) rfl rfl (HK.out k) (.lit (.int .i64 n)) [] (plainElem_int Try.underlying3 (by simp [Lit.wf, IntKind.min, IntKind.max, IntKind.signed, IntKind.bits]; omega)) ?_)
          | go_in)
        intro w1 hown1 hgrow1
        obtain ⟨i84, z84, I84⟩ := Try.info84
        have I84 := Lib.hid (And.intro I84.1 (And.intro I84.2.1 (And.intro I84.2.2.1 (And.intro I84.2.2.2.1 I84.2.2.2.2))))
        obtain ⟨hT, hS, hM, hD, hb, hany⟩ := HA.out
        have hMW := hM.lt
        have hNW : N < W.heap.size := (Array.getElem?_eq_some_iff.1 HW.out).1
        have hT1 := hT.kept (hgrow1.block T hT.lt (by have := HL.out.1; simp; omega))
        have hS1 := hS.kept hgrow1 (own_not_map hS hM)
        have hN1 := (hgrow1.block N hNW (by simp; omega)).trans HW.out
        have hb1 := hb.grown hgrow1 (fun r e => by have e : M = r := by simpa using e
                                                   have := HM.out; omega)
        have hsz1 : M ≤ w1.heap.size := by have := hgrow1.size; omega
        obtain ⟨q1, q2⟩ := hT1.slice
        have q3 : (w1.alloc (.cells (blc F k).toArray 84)).cell? ⟨T, 4353, none⟩ = some (.slice A n cap) := ((below_new w1 _).cell (p := ⟨T, 4353, none⟩) hT1.lt).trans q1
        have hone : ∀ u ∈ blc F k, u.oneCell' = true := fun u hu => (Array.all_eq_true_iff_forall_mem.1 (blc_one F k)) u (by simpa using hu)
        have hnb : ∀ j u, (blc F k)[j]? = some u → (w1.drew.alloc (.cells (blc F k).toArray 84)).cell? ((⟨w1.heap.size, 0, none⟩ : Addr).add j) = some u := fun j u hu => World.news_of_block (cs := (blc F k).toArray) (t := 84) (fr := (0, 0)) (heap_alloc_new w1.drew _) j u (by simpa using hu)
        have hS2 := (World.ownsRow.drew hS1).alloc (.cells (blc F k).toArray 84)
        have hpost : ∀ w2, (w1.drew.alloc (.cells (blc F k).toArray 84)).grownBy w2 (Value.ownBlock (.slice A n cap)) → TB w2 T ov (fun t => if t < k then (rf F k t : Nat) else 0) (.slice A n cap) ∧ w2.ownsMap (H := Unit) Try.prog 84 (plainElem Try.prog 3) M (k + 1) (D.put (kl k) (.lit (.int .i64 n))) ∧ But T w w2 := fun w2 hg => by
          have hTd : TB (w1.drew.alloc (.cells (blc F k).toArray 84)) T ov (fun t => if t < k then (rf F k t : Nat) else 0) (.slice A n cap) := TB.kept (w := w1.drew) hT1 ((below_new w1.drew _).block T hT1.lt)
          have hMd := (World.ownsMap.drew hown1).alloc (.cells (blc F k).toArray 84)
          refine ⟨hTd.kept (hg.block T hTd.lt ?_), hMd.kept hg ?_, ?_⟩
          · rcases own_apart hS2 HL.out.1 with h | h
            · rw [h]; simp
            · exact fun e => h e.symm
          · rcases own_not_map hS2 hMd with h | h
            · rw [h]; simp
            · exact fun e => h e.symm
          · refine (hb1.drew.trans (But.of_below (below_new w1.drew _))).grown hg (fun r e => ?_)
            left
            rw [HM.out]
            exact (hS2.lt r e).1
        have hend : ∀ w3 g cap1, TB w3 T ov (fun t => if t < k then (rf F k t : Nat) else 0) (.slice (some ⟨g, 0, none⟩) (n + 1) cap1) → w3.ownsRow M 84 256 (.slice (some ⟨g, 0, none⟩) (n + 1) cap1) (n + 1) ((dd F k).flatMap (blc F) ++ blc F k) → w3.ownsMap (H := Unit) Try.prog 84 (plainElem Try.prog 3) M (k + 1) (D.put (kl k) (.lit (.int .i64 n))) → But T w w3 →
            ∃ k_1 : Nat, Value.int .i64 ((k : Int) + 1) = .int .i64 k_1 ∧ k_1 ≤ 4352 ∧ But T w (w3.setCell ⟨T, 1 + k, none⟩ (.int .i64 n)) ∧ ∃ S D, TB (w3.setCell ⟨T, 1 + k, none⟩ (.int .i64 n)) T ov (fun t => if t < k_1 then (rf F k_1 t : Nat) else 0) S ∧ (w3.setCell ⟨T, 1 + k, none⟩ (.int .i64 n)).ownsRow M 84 256 S (dd F k_1).length ((dd F k_1).flatMap (blc F)) ∧ (w3.setCell ⟨T, 1 + k, none⟩ (.int .i64 n)).ownsMap (H := Unit) Try.prog 84 (plainElem Try.prog 3) M k_1 D ∧ Seen F kl k_1 D := by
          intro w3 g cap1 hT3 hO3 hM3 hb3
          have e : dd F (k + 1) = dd F k ++ [k] := by rw [dd_succ, if_neg (by rw [hany]; simp)]
          refine ⟨k + 1, by simp, by omega, hb3.trans (But.setCell w3 (1 + k) (.int .i64 n)), _, _, (hT3.setRef hlt n).congr (fun t _ => ?_), ?_, hM3.kept (grown_setCell w3 T (1 + k) (.int .i64 n)) (by intro e; have := HL.out.1; simp at e; omega), ?_⟩
          · by_cases c1 : t = k
            · subst c1
              rw [if_pos rfl, if_pos (by omega), rf_new F t t hany ((sameB_iff F t t).2 rfl) hany, HN.out]
            · rw [if_neg c1]
              by_cases c2 : t < k
              · rw [if_pos c2, if_pos (by omega), rf_keep F k t (dd_has F k t c2)]
              · rw [if_neg c2, if_neg (by omega)]
          · have hk := hO3.kept (grown_setCell w3 T (1 + k) (.int .i64 n)) (own_apart hO3 HL.out.1)
            rw [e, List.length_append, List.flatMap_append, HN.out]
            simpa using hk
          · have := hD.new HK.out (World.ownsMap.isMap hM) hany
            rw [HN.out] at this
            exact this
        have HN1 := Lib.hid hN1
        obtain ⟨H1, hH1⟩ : ∃ H1, w1.heap.size = H1 := ⟨_, rfl⟩
        rw [hH1] at hnb hsz1
        have HH1 := Lib.hid (show w1.drew.heap.size = H1 from hH1)
        have HSZ := Lib.hid (show (w1.drew.alloc (.cells (blc F k).toArray 84)).heap.size = H1 + 1 by rw [← hH1]; simp)
        have HMH := Lib.hid (show M ≤ (w1.drew.alloc (.cells (blc F k).toArray 84)).heap.size by rw [HSZ.out]; omega)
        have NB := Lib.hid hnb
        have ONE := Lib.hid hone
        have HS2 := Lib.hid hS2
        have POSTF := Lib.hid hpost
        have END := Lib.hid hend
        clear hT hS hM hD hb hany hMW hNW hT1 hS1 hN1 hb1 hsz1 hone hnb hS2 hpost hend hH1 hgrow1 hown1 HA HW
        go_wp2_with fail
        refine wp_region_any (by kernel_rfl) ?_
        try (change wpAny _ _ _ _ _ _ _ (World.drew _))
        try simp only [Act.put, List.setIfInBounds_toArray, List.set_cons_zero, List.set_cons_succ]
        refine wpAny_take (i := 0) (oi := { dst := some 33, op := Op.move (Operand.tmp 0), type := 26, pos := "trie.go:85", after := #[], guard := none }) (v := ?_) rfl (by kernel_rfl) (by kernel_rfl) (by kernel_rfl) (fun _ _ _ h => h) (Or.inl ⟨by rfl, ?_⟩) ?_
        rotate_left
        · intro W'
          go_simp
          try with_reducible rfl
        try simp only [Act.put, List.setIfInBounds_toArray, List.set_cons_zero, List.set_cons_succ]
        refine wpAny_take (i := 1) (oi := { dst := some 34, op := Op.move (Operand.tmp 0), type := 26, pos := "trie.go:85", after := #[], guard := none }) (v := ?_) rfl (by kernel_rfl) (by kernel_rfl) (by kernel_rfl) (fun _ _ _ h => h) (Or.inl ⟨by rfl, ?_⟩) ?_
        rotate_left
        · intro W'
          go_simp
          try with_reducible rfl
        try simp only [Act.put, List.setIfInBounds_toArray, List.set_cons_zero, List.set_cons_succ]
        refine wpAny_take (i := 2) (oi := { dst := some 35, op := Op.nilCheck (Operand.tmp 34), type := 0, pos := "trie.go:85", after := #[{ on := 1, ground := Ground.data }], guard := none }) (v := ?_) rfl (by kernel_rfl) (by kernel_rfl) (by kernel_rfl) (fun _ _ _ h => h) (Or.inl ⟨by rfl, ?_⟩) ?_
        rotate_left
        · intro W'
          go_simp
          try with_reducible rfl
        try simp only [Act.put, List.setIfInBounds_toArray, List.set_cons_zero, List.set_cons_succ]
        refine wpAny_take (i := 3) (oi := { dst := some 36, op := Op.fieldAddr 80 (Operand.tmp 35) 2, type := 0, pos := "trie.go:85", after := #[{ on := 2, ground := Ground.data }], guard := none }) (v := ?_) rfl (by kernel_rfl) (by kernel_rfl) (by kernel_rfl) (fun _ _ _ h => h) (Or.inl ⟨by rfl, ?_⟩) ?_
        rotate_left
        · intro W'
          go_simp
          try with_reducible rfl
        try simp only [Act.put, List.setIfInBounds_toArray, List.set_cons_zero, List.set_cons_succ]
        refine wpAny_ready (rs := [4, 5]) (by kernel_rfl) (by simp) ?_
        refine AllReady.cons (o := { dst := some 37, op := Op.load 75 (Operand.tmp 36), type := 75, pos := "trie.go:85", after := #[{ on := 3, ground := Ground.data }], guard := none }) rfl (fun K hK => ?_) ?_
        · go_simp
          refine hK _ _ ?_
          clear hK K
          try simp only [Act.put, List.setIfInBounds_toArray, List.set_cons_zero, List.set_cons_succ]
          refine wpAny_ready (rs := [5]) (by kernel_rfl) (by simp) ?_
          refine AllReady.cons (o := { dst := some 38, op := Op.load 84 (Operand.tmp 6), type := 84, pos := "trie.go:85", after := #[], guard := none }) rfl (fun K hK => ?_) ?_
          rotate_left
          · exact AllReady.nil
          refine step_load84 rfl (.tmp 6) rfl N (blc F k) (blc_len F k) rfl HN1.out ?_
          refine hK _ _ ?_
          clear hK K
          try simp only [Act.put, List.setIfInBounds_toArray, List.set_cons_zero, List.set_cons_succ]
          refine wpAny_ready (rs := [6]) (by kernel_rfl) (by simp) ?_
          refine AllReady.cons (o := { dst := some 39, op := Op.buildSlice 75 1 #[(0, Operand.tmp 38)], type := 75, pos := "trie.go:85", after := #[{ on := 5, ground := Ground.data }], guard := none }) rfl (fun K hK => ?_) ?_
          rotate_left
          · exact AllReady.nil
          refine step_build84 rfl (.tmp 38) rfl (blc F k) (blc_len F k) rfl H1 HH1.out ?_
          refine hK _ _ ?_
          clear hK K
          try simp only [Act.put, List.setIfInBounds_toArray, List.set_cons_zero, List.set_cons_succ]
          refine wpAny_ready (rs := [7]) (by kernel_rfl) (by simp) ?_
          refine AllReady.cons (o := { dst := some 40, op := Op.call { callee := Callee.builtin Builtin.append, args := #[Operand.tmp 37, Operand.tmp 39], argTypes := #[75, 75] }, type := 75, pos := "trie.go:85", after := #[{ on := 4, ground := Ground.data }, { on := 6, ground := Ground.data }], guard := none }) rfl (fun K hK => ?_) ?_
          rotate_left
          · exact AllReady.nil
          refine step_append_lies _ rfl (.tmp 37) (.tmp 39) 75 rfl M 84 i84 z84 256 256 Try.underlying75 I84.out.1 I84.out.2.1 I84.out.2.2.1 I84.out.2.2.2.1 I84.out.2.2.2.2 (by omega) (.slice A n cap) n ((dd F k).flatMap (blc F)) rfl HS2.out ⟨H1, 0, none⟩ 1 1 (blc F k) rfl (by rw [blc_len]) NB.out (ONE.out) (by omega) (by unfold maxLen; omega) (by omega) HMH.out (H1 + 1) HSZ.out ?_
          intro g cap1 w2 hown2 hgrow2 hat2 hlt2
          refine hK _ _ ?_
          clear hK K
          try simp only [Act.put, List.setIfInBounds_toArray, List.set_cons_zero, List.set_cons_succ]
          obtain ⟨hT2, hM2, hb2⟩ := POSTF.out w2 hgrow2
          obtain ⟨s1, s2⟩ := hT2.slice
          have HT2 := Lib.hid hT2
          have HM2 := Lib.hid hM2
          have HB2 := Lib.hid hb2
          have HO2 := Lib.hid hown2
          clear hT2 hM2 hb2 hown2 hgrow2 hat2 hlt2
          refine wpAny_take (i := 8) (oi := { dst := some 41, op := Op.nilCheck (Operand.tmp 33), type := 0, pos := "trie.go:85", after := #[{ on := 0, ground := Ground.data }, { on := 0, ground := Ground.phase }, { on := 1, ground := Ground.phase }, { on := 2, ground := Ground.phase }, { on := 3, ground := Ground.phase }, { on := 4, ground := Ground.phase }, { on := 5, ground := Ground.phase }, { on := 6, ground := Ground.phase }, { on := 7, ground := Ground.phase }], guard := none }) (v := ?_) rfl (by kernel_rfl) (by kernel_rfl) (by kernel_rfl) (fun _ _ _ h => h) (Or.inl ⟨by rfl, ?_⟩) ?_
          rotate_left
          · intro W'
            go_simp
            try with_reducible rfl
          try simp only [Act.put, List.setIfInBounds_toArray, List.set_cons_zero, List.set_cons_succ]
          refine wpAny_take (i := 9) (oi := { dst := some 42, op := Op.fieldAddr 80 (Operand.tmp 41) 2, type := 0, pos := "trie.go:85", after := #[{ on := 8, ground := Ground.data }, { on := 0, ground := Ground.phase }, { on := 1, ground := Ground.phase }, { on := 2, ground := Ground.phase }, { on := 3, ground := Ground.phase }, { on := 4, ground := Ground.phase }, { on := 5, ground := Ground.phase }, { on := 6, ground := Ground.phase }, { on := 7, ground := Ground.phase }], guard := none }) (v := ?_) rfl (by kernel_rfl) (by kernel_rfl) (by kernel_rfl) (fun _ _ _ h => h) (Or.inl ⟨by rfl, ?_⟩) ?_
          rotate_left
          · intro W'
            go_simp
            try with_reducible rfl
          try simp only [Act.put, List.setIfInBounds_toArray, List.set_cons_zero, List.set_cons_succ]
          refine wpAny_ready (rs := [10]) (by kernel_rfl) (by simp) ?_
          refine AllReady.cons (o := { dst := none, op := Op.store 75 (Operand.tmp 42) (Operand.tmp 40), type := 0, pos := "trie.go:85", after := #[{ on := 9, ground := Ground.data }, { on := 7, ground := Ground.data }, { on := 7, ground := Ground.chain }, { on := 0, ground := Ground.phase }, { on := 1, ground := Ground.phase }, { on := 2, ground := Ground.phase }, { on := 3, ground := Ground.phase }, { on := 4, ground := Ground.phase }, { on := 5, ground := Ground.phase }, { on := 6, ground := Ground.phase }, { on := 7, ground := Ground.phase }], guard := none }) rfl (fun K hK => ?_) ?_
          rotate_left
          · exact AllReady.nil
          go_simp
          refine hK _ _ ?_
          clear hK K
          try simp only [Act.put, List.setIfInBounds_toArray, List.set_cons_zero, List.set_cons_succ]
          refine wpAny_done (by kernel_rfl) ?_ _
          have hT3 := HT2.out.setS (.slice (some ⟨g, 0, none⟩) (n + 1) cap1)
          have hO3 := HO2.out.kept (grown_setCell w2 T 4353 (.slice (some ⟨g, 0, none⟩) (n + 1) cap1)) (own_apart HO2.out HL.out.1)
          have hM3 := HM2.out.kept (grown_setCell w2 T 4353 (.slice (some ⟨g, 0, none⟩) (n + 1) cap1)) (by intro e; have := HL.out.1; simp at e; omega)
          have hb3 := HB2.out.trans (But.setCell w2 4353 (.slice (some ⟨g, 0, none⟩) (n + 1) cap1))
          obtain ⟨r1, r2⟩ := hT3.ref hlt
          generalize w2.setCell ⟨T, 4353, none⟩ (.slice (some ⟨g, 0, none⟩) (n + 1) cap1) = w3 at *
          have H3 := Lib.hid (And.intro hT3 (And.intro hO3 (And.intro hM3 hb3)))
          clear hT3 hO3 hM3 hb3 s1 s2 HT2 HM2 HB2 HO2
          go_wp2_with fail
          go_roundw
          case rel => exact END.out w3 g cap1 H3.out.1 H3.out.2.1 H3.out.2.2.1 H3.out.2.2.2
          case measure => simp [RowKit.intOf]; omega
        refine AllReady.cons (o := { dst := some 38, op := Op.load 84 (Operand.tmp 6), type := 84, pos := "trie.go:85", after := #[], guard := none }) rfl (fun K hK => ?_) ?_
        · refine step_load84 rfl (.tmp 6) rfl N (blc F k) (blc_len F k) rfl HN1.out ?_
          refine hK _ _ ?_
          clear hK K
          try simp only [Act.put, List.setIfInBounds_toArray, List.set_cons_zero, List.set_cons_succ]
          refine wpAny_ready (rs := [4, 6]) (by kernel_rfl) (by simp) ?_
          refine AllReady.cons (o := { dst := some 37, op := Op.load 75 (Operand.tmp 36), type := 75, pos := "trie.go:85", after := #[{ on := 3, ground := Ground.data }], guard := none }) rfl (fun K hK => ?_) ?_
          · go_simp
            refine hK _ _ ?_
            clear hK K
            try simp only [Act.put, List.setIfInBounds_toArray, List.set_cons_zero, List.set_cons_succ]
            refine wpAny_ready (rs := [6]) (by kernel_rfl) (by simp) ?_
            refine AllReady.cons (o := { dst := some 39, op := Op.buildSlice 75 1 #[(0, Operand.tmp 38)], type := 75, pos := "trie.go:85", after := #[{ on := 5, ground := Ground.data }], guard := none }) rfl (fun K hK => ?_) ?_
            rotate_left
            · exact AllReady.nil
            refine step_build84 rfl (.tmp 38) rfl (blc F k) (blc_len F k) rfl H1 HH1.out ?_
            refine hK _ _ ?_
            clear hK K
            try simp only [Act.put, List.setIfInBounds_toArray, List.set_cons_zero, List.set_cons_succ]
            refine wpAny_ready (rs := [7]) (by kernel_rfl) (by simp) ?_
            refine AllReady.cons (o := { dst := some 40, op := Op.call { callee := Callee.builtin Builtin.append, args := #[Operand.tmp 37, Operand.tmp 39], argTypes := #[75, 75] }, type := 75, pos := "trie.go:85", after := #[{ on := 4, ground := Ground.data }, { on := 6, ground := Ground.data }], guard := none }) rfl (fun K hK => ?_) ?_
            rotate_left
            · exact AllReady.nil
            refine step_append_lies _ rfl (.tmp 37) (.tmp 39) 75 rfl M 84 i84 z84 256 256 Try.underlying75 I84.out.1 I84.out.2.1 I84.out.2.2.1 I84.out.2.2.2.1 I84.out.2.2.2.2 (by omega) (.slice A n cap) n ((dd F k).flatMap (blc F)) rfl HS2.out ⟨H1, 0, none⟩ 1 1 (blc F k) rfl (by rw [blc_len]) NB.out (ONE.out) (by omega) (by unfold maxLen; omega) (by omega) HMH.out (H1 + 1) HSZ.out ?_
            intro g cap1 w2 hown2 hgrow2 hat2 hlt2
            refine hK _ _ ?_
            clear hK K
            try simp only [Act.put, List.setIfInBounds_toArray, List.set_cons_zero, List.set_cons_succ]
            obtain ⟨hT2, hM2, hb2⟩ := POSTF.out w2 hgrow2
            obtain ⟨s1, s2⟩ := hT2.slice
            have HT2 := Lib.hid hT2
            have HM2 := Lib.hid hM2
            have HB2 := Lib.hid hb2
            have HO2 := Lib.hid hown2
            clear hT2 hM2 hb2 hown2 hgrow2 hat2 hlt2
            refine wpAny_take (i := 8) (oi := { dst := some 41, op := Op.nilCheck (Operand.tmp 33), type := 0, pos := "trie.go:85", after := #[{ on := 0, ground := Ground.data }, { on := 0, ground := Ground.phase }, { on := 1, ground := Ground.phase }, { on := 2, ground := Ground.phase }, { on := 3, ground := Ground.phase }, { on := 4, ground := Ground.phase }, { on := 5, ground := Ground.phase }, { on := 6, ground := Ground.phase }, { on := 7, ground := Ground.phase }], guard := none }) (v := ?_) rfl (by kernel_rfl) (by kernel_rfl) (by kernel_rfl) (fun _ _ _ h => h) (Or.inl ⟨by rfl, ?_⟩) ?_
            rotate_left
            · intro W'
              go_simp
              try with_reducible rfl
            try simp only [Act.put, List.setIfInBounds_toArray, List.set_cons_zero, List.set_cons_succ]
            refine wpAny_take (i := 9) (oi := { dst := some 42, op := Op.fieldAddr 80 (Operand.tmp 41) 2, type := 0, pos := "trie.go:85", after := #[{ on := 8, ground := Ground.data }, { on := 0, ground := Ground.phase }, { on := 1, ground := Ground.phase }, { on := 2, ground := Ground.phase }, { on := 3, ground := Ground.phase }, { on := 4, ground := Ground.phase }, { on := 5, ground := Ground.phase }, { on := 6, ground := Ground.phase }, { on := 7, ground := Ground.phase }], guard := none }) (v := ?_) rfl (by kernel_rfl) (by kernel_rfl) (by kernel_rfl) (fun _ _ _ h => h) (Or.inl ⟨by rfl, ?_⟩) ?_
            rotate_left
            · intro W'
              go_simp
              try with_reducible rfl
            try simp only [Act.put, List.setIfInBounds_toArray, List.set_cons_zero, List.set_cons_succ]
            refine wpAny_ready (rs := [10]) (by kernel_rfl) (by simp) ?_
            refine AllReady.cons (o := { dst := none, op := Op.store 75 (Operand.tmp 42) (Operand.tmp 40), type := 0, pos := "trie.go:85", after := #[{ on := 9, ground := Ground.data }, { on := 7, ground := Ground.data }, { on := 7, ground := Ground.chain }, { on := 0, ground := Ground.phase }, { on := 1, ground := Ground.phase }, { on := 2, ground := Ground.phase }, { on := 3, ground := Ground.phase }, { on := 4, ground := Ground.phase }, { on := 5, ground := Ground.phase }, { on := 6, ground := Ground.phase }, { on := 7, ground := Ground.phase }], guard := none }) rfl (fun K hK => ?_) ?_
            rotate_left
            · exact AllReady.nil
            go_simp
            refine hK _ _ ?_
            clear hK K
            try simp only [Act.put, List.setIfInBounds_toArray, List.set_cons_zero, List.set_cons_succ]
            refine wpAny_done (by kernel_rfl) ?_ _
            have hT3 := HT2.out.setS (.slice (some ⟨g, 0, none⟩) (n + 1) cap1)
            have hO3 := HO2.out.kept (grown_setCell w2 T 4353 (.slice (some ⟨g, 0, none⟩) (n + 1) cap1)) (own_apart HO2.out HL.out.1)
            have hM3 := HM2.out.kept (grown_setCell w2 T 4353 (.slice (some ⟨g, 0, none⟩) (n + 1) cap1)) (by intro e; have := HL.out.1; simp at e; omega)
            have hb3 := HB2.out.trans (But.setCell w2 4353 (.slice (some ⟨g, 0, none⟩) (n + 1) cap1))
            obtain ⟨r1, r2⟩ := hT3.ref hlt
            generalize w2.setCell ⟨T, 4353, none⟩ (.slice (some ⟨g, 0, none⟩) (n + 1) cap1) = w3 at *
            have H3 := Lib.hid (And.intro hT3 (And.intro hO3 (And.intro hM3 hb3)))
            clear hT3 hO3 hM3 hb3 s1 s2 HT2 HM2 HB2 HO2
            go_wp2_with fail
            go_roundw
            case rel => exact END.out w3 g cap1 H3.out.1 H3.out.2.1 H3.out.2.2.1 H3.out.2.2.2
            case measure => simp [RowKit.intOf]; omega
          refine AllReady.cons (o := { dst := some 39, op := Op.buildSlice 75 1 #[(0, Operand.tmp 38)], type := 75, pos := "trie.go:85", after := #[{ on := 5, ground := Ground.data }], guard := none }) rfl (fun K hK => ?_) ?_
          · refine step_build84 rfl (.tmp 38) rfl (blc F k) (blc_len F k) rfl H1 HH1.out ?_
            refine hK _ _ ?_
            clear hK K
            try simp only [Act.put, List.setIfInBounds_toArray, List.set_cons_zero, List.set_cons_succ]
            refine wpAny_ready (rs := [4]) (by kernel_rfl) (by simp) ?_
            refine AllReady.cons (o := { dst := some 37, op := Op.load 75 (Operand.tmp 36), type := 75, pos := "trie.go:85", after := #[{ on := 3, ground := Ground.data }], guard := none }) rfl (fun K hK => ?_) ?_
            rotate_left
            · exact AllReady.nil
            go_simp
            refine hK _ _ ?_
            clear hK K
            try simp only [Act.put, List.setIfInBounds_toArray, List.set_cons_zero, List.set_cons_succ]
            refine wpAny_ready (rs := [7]) (by kernel_rfl) (by simp) ?_
            refine AllReady.cons (o := { dst := some 40, op := Op.call { callee := Callee.builtin Builtin.append, args := #[Operand.tmp 37, Operand.tmp 39], argTypes := #[75, 75] }, type := 75, pos := "trie.go:85", after := #[{ on := 4, ground := Ground.data }, { on := 6, ground := Ground.data }], guard := none }) rfl (fun K hK => ?_) ?_
            rotate_left
            · exact AllReady.nil
            refine step_append_lies _ rfl (.tmp 37) (.tmp 39) 75 rfl M 84 i84 z84 256 256 Try.underlying75 I84.out.1 I84.out.2.1 I84.out.2.2.1 I84.out.2.2.2.1 I84.out.2.2.2.2 (by omega) (.slice A n cap) n ((dd F k).flatMap (blc F)) rfl HS2.out ⟨H1, 0, none⟩ 1 1 (blc F k) rfl (by rw [blc_len]) NB.out (ONE.out) (by omega) (by unfold maxLen; omega) (by omega) HMH.out (H1 + 1) HSZ.out ?_
            intro g cap1 w2 hown2 hgrow2 hat2 hlt2
            refine hK _ _ ?_
            clear hK K
            try simp only [Act.put, List.setIfInBounds_toArray, List.set_cons_zero, List.set_cons_succ]
            obtain ⟨hT2, hM2, hb2⟩ := POSTF.out w2 hgrow2
            obtain ⟨s1, s2⟩ := hT2.slice
            have HT2 := Lib.hid hT2
            have HM2 := Lib.hid hM2
            have HB2 := Lib.hid hb2
            have HO2 := Lib.hid hown2
            clear hT2 hM2 hb2 hown2 hgrow2 hat2 hlt2
            refine wpAny_take (i := 8) (oi := { dst := some 41, op := Op.nilCheck (Operand.tmp 33), type := 0, pos := "trie.go:85", after := #[{ on := 0, ground := Ground.data }, { on := 0, ground := Ground.phase }, { on := 1, ground := Ground.phase }, { on := 2, ground := Ground.phase }, { on := 3, ground := Ground.phase }, { on := 4, ground := Ground.phase }, { on := 5, ground := Ground.phase }, { on := 6, ground := Ground.phase }, { on := 7, ground := Ground.phase }], guard := none }) (v := ?_) rfl (by kernel_rfl) (by kernel_rfl) (by kernel_rfl) (fun _ _ _ h => h) (Or.inl ⟨by rfl, ?_⟩) ?_
            rotate_left
            · intro W'
              go_simp
              try with_reducible rfl
            try simp only [Act.put, List.setIfInBounds_toArray, List.set_cons_zero, List.set_cons_succ]
            refine wpAny_take (i := 9) (oi := { dst := some 42, op := Op.fieldAddr 80 (Operand.tmp 41) 2, type := 0, pos := "trie.go:85", after := #[{ on := 8, ground := Ground.data }, { on := 0, ground := Ground.phase }, { on := 1, ground := Ground.phase }, { on := 2, ground := Ground.phase }, { on := 3, ground := Ground.phase }, { on := 4, ground := Ground.phase }, { on := 5, ground := Ground.phase }, { on := 6, ground := Ground.phase }, { on := 7, ground := Ground.phase }], guard := none }) (v := ?_) rfl (by kernel_rfl) (by kernel_rfl) (by kernel_rfl) (fun _ _ _ h => h) (Or.inl ⟨by rfl, ?_⟩) ?_
            rotate_left
            · intro W'
              go_simp
              try with_reducible rfl
            try simp only [Act.put, List.setIfInBounds_toArray, List.set_cons_zero, List.set_cons_succ]
            refine wpAny_ready (rs := [10]) (by kernel_rfl) (by simp) ?_
            refine AllReady.cons (o := { dst := none, op := Op.store 75 (Operand.tmp 42) (Operand.tmp 40), type := 0, pos := "trie.go:85", after := #[{ on := 9, ground := Ground.data }, { on := 7, ground := Ground.data }, { on := 7, ground := Ground.chain }, { on := 0, ground := Ground.phase }, { on := 1, ground := Ground.phase }, { on := 2, ground := Ground.phase }, { on := 3, ground := Ground.phase }, { on := 4, ground := Ground.phase }, { on := 5, ground := Ground.phase }, { on := 6, ground := Ground.phase }, { on := 7, ground := Ground.phase }], guard := none }) rfl (fun K hK => ?_) ?_
            rotate_left
            · exact AllReady.nil
            go_simp
            refine hK _ _ ?_
            clear hK K
            try simp only [Act.put, List.setIfInBounds_toArray, List.set_cons_zero, List.set_cons_succ]
            refine wpAny_done (by kernel_rfl) ?_ _
            have hT3 := HT2.out.setS (.slice (some ⟨g, 0, none⟩) (n + 1) cap1)
            have hO3 := HO2.out.kept (grown_setCell w2 T 4353 (.slice (some ⟨g, 0, none⟩) (n + 1) cap1)) (own_apart HO2.out HL.out.1)
            have hM3 := HM2.out.kept (grown_setCell w2 T 4353 (.slice (some ⟨g, 0, none⟩) (n + 1) cap1)) (by intro e; have := HL.out.1; simp at e; omega)
            have hb3 := HB2.out.trans (But.setCell w2 4353 (.slice (some ⟨g, 0, none⟩) (n + 1) cap1))
            obtain ⟨r1, r2⟩ := hT3.ref hlt
            generalize w2.setCell ⟨T, 4353, none⟩ (.slice (some ⟨g, 0, none⟩) (n + 1) cap1) = w3 at *
            have H3 := Lib.hid (And.intro hT3 (And.intro hO3 (And.intro hM3 hb3)))
            clear hT3 hO3 hM3 hb3 s1 s2 HT2 HM2 HB2 HO2
            go_wp2_with fail
            go_roundw
            case rel => exact END.out w3 g cap1 H3.out.1 H3.out.2.1 H3.out.2.2.1 H3.out.2.2.2
            case measure => simp [RowKit.intOf]; omega
          exact AllReady.nil
        exact AllReady.nil
    · have hkn : k = 4352 := by omega
      have hR2 : R (.returned (.tuple #[])) wr := by
        rw [HR.out]
        refine ⟨rfl, hb, S, hT.congr (fun t ht => ?_), ?_⟩
        · rw [if_pos (by omega), hkn]
        · rw [← hkn]; exact hS
      have HK2 := Lib.hid hR2
      have i1 : ¬ (k : Int) < 4352 := by omega
      have d1 : decide ((k : Int) < 4352) = false := by simp; omega
      clear hT hS hM hD hb hR2 hkn hlt
      go_wp2
      go_end0
      exact HK2.out
end Go.Proofs.Ytphhdkffnboboaa

namespace Go.Proofs.Ytphhdkffnboboaa
open Go.RowKit Go.Shelf
open Go.Lib Go.Great Go.Maps

theorem blc_index (F : Nat → Int) (k j : Nat) (hj : j < 256) (w : World) : (Instr.index 84 (.agg (blc F k).toArray) (.int .i64 (j : Int))).run Try.prog w = .ok (.int .u8 (F (256 * k + j))) w := by
  have h := blc_get F k j hj
  have hl := blc_len F k
  have hE : (blc F k).toArray[j]? = some (.int .u8 (F (256 * k + j))) := by simpa using h
  simp [Instr.index, asIntOf, run_underlying Try.underlying84, part, Try.isAgg5, Try.sizeOf5, Sem.run_bind, Result.andThen, h, go_sem]
  omega

set_option maxHeartbeats 4000000 in
set_option maxRecDepth 100000 in
theorem bset_any (F : Nat → Int) (hF : U8 F) (k : Nat) (c : Int) (_c0 : 0 ≤ c) (_c1 : c ≤ 255) (w : World) :
    Calls Try.prog 49 #[.agg (blc F k).toArray, .int .u8 c] w fun e w' => ∃ xs, HoldsR w.heap.size 70 xs w e w' ∧ Tells xs (clsTo (fun i => F (256 * k + i)) c 256) := by
  have HX := Lib.hid (fun j hj w => blc_index F k j hj w)
  have HS := Lib.hid (show (blc F k).toArray.size = 256 by simp [blc_len F k])
  have HU := Lib.hid (fun i => hF (256 * k + i))
  generalize hB : (blc F k).toArray = B at *
  generalize hf : (fun i => F (256 * k + i)) = f at *
  have HFF := Lib.hid hf
  have EX := Lib.hid (fun base v xs x w h hb hr hl => extend_any base v xs x w h hb hr hl)
  clear hB hF hf
  go_enter Try.func49, Try.ntmps49
  go_wp2_with (first
    | (refine wpList_load_row rfl 84 (.tmp 2) rfl w.heap.size rfl 84 B (0, 0) (.array 256 5) (heap_alloc_new _ _) Try.underlying84 rfl (by rw [size84, HS.out]) ?_)
    | fail)
  go_loopw [5, 9] (fun v i wr => ∃ (j : Nat) (xs : List Rng), i = .int .i64 (j : Int) ∧ j ≤ 256 ∧ wr.ownsRow w.heap.size 70 2 v xs.length (cells2 xs) ∧ Tells xs (clsTo f c j) ∧ Below w.heap.size w wr) (fun _ i _ => 256 - (RowKit.intOf i).toNat)
  case atStart => exact ⟨0, [], rfl, Nat.zero_le _, World.ownsRow_nil _ _ _ _, tells_zero _ _, (Below.refl _ _).alloc (Nat.le_refl _) _⟩
  case round =>
    obtain ⟨j, xs, rfl, hj, hown, hT, hb⟩ := hrel
    by_cases hlt : j < 256
    · have i1 : (j : Int) < 256 := by omega
      have hx := HX.out j hlt
      have hfj : f j = F (256 * k + j) := by rw [← HFF.out]
      have huj := HU.out j
      rw [← hfj] at hx huj
      have HO := Lib.hid (And.intro hown (And.intro hT hb))
      have HFJ := Lib.hid hfj
      have hl := right_len2 hT.1
      have hws := hb.size
      have hr := hT.1
      by_cases he : f j = c
      · have C := Lib.hid (EX.out w.heap.size u5 xs ((j : Int), (j : Int)) wr hown hws hr (by omega))
        rw [he] at hx
        have HE := Lib.hid he
        have e1 : IntKind.i32.wrap (j : Int) = (j : Int) := IntWalk.i32_in _ (by omega)
        clear hown hT hb hr hfj huj he hl
        go_wp2_with fail
        refine C.out.mono ?_
        rintro e w7 ⟨v7, rfl, ho7, hb7⟩
        have hend : ∃ (j_1 : Nat) (xs : List Rng), Value.int .i64 ((j : Int) + 1) = .int .i64 (j_1 : Int) ∧ j_1 ≤ 256 ∧ w7.ownsRow w.heap.size 70 2 v7 xs.length (cells2 xs) ∧ Tells xs (clsTo f c j_1) ∧ Below w.heap.size w w7 :=
          ⟨j + 1, _, by simp, by omega, ho7, tells_yes HO.out.2.1 (by omega) HE.out, HO.out.2.2.trans hb7⟩
        have HEND := Lib.hid hend
        clear hend ho7 hb7
        go_wp2_with fail
        go_roundw
        case rel => exact HEND.out
        case measure => simp [RowKit.intOf]; omega
      · have hne : ((f j) == c) = false := by simpa using he
        have hend : ∃ (j_1 : Nat) (xs : List Rng), Value.int .i64 ((j : Int) + 1) = .int .i64 (j_1 : Int) ∧ j_1 ≤ 256 ∧ wr.ownsRow w.heap.size 70 2 u5 xs.length (cells2 xs) ∧ Tells xs (clsTo f c j_1) ∧ Below w.heap.size w wr :=
          ⟨j + 1, xs, by simp, by omega, hown, tells_no hT he, hb⟩
        have HEND := Lib.hid hend
        generalize f j = fj at *
        clear hown hT hb hr hfj hl he hend
        go_wp2_with fail
        go_roundw
        case rel => exact HEND.out
        case measure => simp [RowKit.intOf]; omega
    · have hj2 : j = 256 := by omega
      subst hj2
      have d1 : ¬ ((256 : Nat) : Int) < 256 := by omega
      have H := Lib.hid (And.intro hown (And.intro hT hb))
      clear hown hT hb
      go_wp2_with fail
      go_ret
      exact ⟨xs, ⟨_, rfl, H.out.1, H.out.2.2⟩, H.out.2.1⟩
end Go.Proofs.Ytphhdkffnboboaa

namespace Go.Proofs.Ytphhdkffnboboaa
open Go.RowKit Go.Shelf
open Go.Lib Go.Great Go.Maps

/-- A trie that tells G, of others o. -/
def Tr (w : World) (T : Nat) (o : Int) (G : Nat → Int) : Prop := ∃ (b cap : Nat) (u : Nat → Nat), w.cell? ⟨T, 0, none⟩ = some (.int .i64 o) ∧ w.cell? ⟨T, 4353, none⟩ = some (.slice (some ⟨b, 0, none⟩) (dd G 4352).length cap) ∧
  (∀ t, t < 4352 → w.cell? ⟨T, 1 + t, none⟩ = some (.int .i64 (u t : Nat)) ∧ u t < (dd G 4352).length) ∧ (∀ t j, t < 4352 → j < 256 → w.cell? ⟨b, u t * 256 + j, none⟩ = some (.int .u8 (G (256 * t + j)))) ∧ (dd G 4352).length ≤ 4352 ∧
  (∀ t, t < 4352 → u t = rf G 4352 t) ∧ (∀ i k, (dd G 4352)[i]? = some k → ∀ j, j < 256 → w.cell? ⟨b, i * 256 + j, none⟩ = some (.int .u8 (G (256 * k + j))))
theorem cell_lt {w : World} {p : Addr} {v : Value} (h : w.cell? p = some v) : p.block < w.heap.size := by
  rcases Nat.lt_or_ge p.block w.heap.size with c | c
  · exact c
  · unfold World.cell? at h
    rw [Array.getElem?_eq_none c] at h
    cases h
theorem Tr.lt {w : World} {T : Nat} {o : Int} {G : Nat → Int} (h : Tr w T o G) : T < w.heap.size := by obtain ⟨_, _, _, h, _⟩ := h; exact cell_lt h
theorem Tr.below {w w' : World} {T : Nat} {o : Int} {G : Nat → Int} (h : Tr w T o G) (hb : Below w.heap.size w w') : Tr w' T o G := by
  obtain ⟨b, cap, u, h1, h2, h3, h4, h5, h6, h7⟩ := h
  refine ⟨b, cap, u, (hb.cell (p := ⟨T, 0, none⟩) (cell_lt h1)).trans h1, (hb.cell (p := ⟨T, 4353, none⟩) (cell_lt h2)).trans h2, fun t ht => ⟨(hb.cell (p := ⟨T, 1 + t, none⟩) (cell_lt (h3 t ht).1)).trans (h3 t ht).1, (h3 t ht).2⟩, fun t j ht hj => ?_, h5, h6, fun i k hi j hj => (hb.cell (p := ⟨b, i * 256 + j, none⟩) (cell_lt (h7 i k hi j hj))).trans (h7 i k hi j hj)⟩
  exact (hb.cell (p := ⟨b, u t * 256 + j, none⟩) (cell_lt (h4 t j ht hj))).trans (h4 t j ht hj)
theorem flat_get (f : Nat → List Value) (hf : ∀ k, (f k).length = 256) : ∀ (l : List Nat) (i j k : Nat), l[i]? = some k → j < 256 → (l.flatMap f)[i * 256 + j]? = (f k)[j]? := by
  intro l
  induction l with
  | nil => intro i j k h; simp at h
  | cons x xs ih =>
    intro i j k h hj
    rw [List.flatMap_cons]
    rcases i with _ | i
    · simp only [List.getElem?_cons_zero, Option.some.injEq] at h
      subst h
      rw [Nat.zero_mul, Nat.zero_add, List.getElem?_append_left (by rw [hf]; exact hj)]
    · simp only [List.getElem?_cons_succ] at h
      rw [List.getElem?_append_right (by rw [hf]; omega), hf, show (i + 1) * 256 + j - 256 = i * 256 + j by omega]
      exact ih i j k h hj
theorem Tr.of_share {w : World} {T M : Nat} {o : Int} {F : Nat → Int} {S : Value} (h1 : TB w T (.int .i64 o) (fun t => (rf F 4352 t : Nat)) S) (h2 : w.ownsRow M 84 256 S (dd F 4352).length ((dd F 4352).flatMap (blc F))) : Tr w T o F := by
  have hp : 0 < (dd F 4352).length := Nat.lt_of_le_of_lt (Nat.zero_le _) (rf_lt F 4352 0 (dd_has F 4352 0 (by omega)))
  obtain ⟨b, cap, rfl, hb1, hb2⟩ := h2.form hp
  refine ⟨b, cap, rf F 4352, h1.other, h1.slice.1, fun t ht => ⟨(h1.ref ht).1, rf_lt F 4352 t (dd_has F 4352 t ht)⟩, fun t j ht hj => ?_, dd_len F 4352, fun _ _ => rfl, fun i k hi j hj => ?_⟩
  · have hl := rf_lt F 4352 t (dd_has F 4352 t ht)
    obtain ⟨k, hk, hs⟩ := rf_at F 4352 t (dd_has F 4352 t ht)
    rw [h2.cellAt _ (by omega), flat_get (blc F) (blc_len F) _ _ j k hk hj, (sameB_iff F k t).1 hs]
    exact blc_get F t j hj
  · have hi' := (List.getElem?_eq_some_iff.1 hi).1
    rw [h2.cellAt _ (by omega), flat_get (blc F) (blc_len F) _ _ j k hi hj]
    exact blc_get F k j hj

set_option maxHeartbeats 2000000 in
set_option maxRecDepth 100000 in
theorem get_any (T : Nat) (o : Int) (G : Nat → Int) (r : Int) (w : World) (h : Tr w T o G) (hG : U8 G) (r0 : -2147483648 ≤ r) (r1 : r ≤ 2147483647) :
    Calls Try.prog 18 #[.pointer (some ⟨T, 0, none⟩), .int .i32 r] w fun e w' => e = .returned (.int .i64 (if r < 0 ∨ 1114111 < r then o else G r.toNat)) ∧ Below w.heap.size w w' := by
  obtain ⟨b, cap, u, h1, h2, h3, h4, h5, -, -⟩ := h
  generalize (dd G 4352).length = n at *
  by_cases c0 : r < 0
  · rw [if_pos (.inl c0)]
    go_enter Try.func18, Try.ntmps18
    go_wp2
    go_ret
    exact ⟨rfl, Below.refl _ _⟩
  · by_cases c1 : 1114111 < r
    · rw [if_pos (.inr c1)]
      go_enter Try.func18, Try.ntmps18
      go_wp2
      go_ret
      exact ⟨rfl, Below.refl _ _⟩
    · rw [if_neg (by omega)]
      obtain ⟨a, rfl⟩ := Int.eq_ofNat_of_zero_le (show 0 ≤ r by omega)
      have ha : a < 1114112 := by omega
      obtain ⟨p1, p2⟩ := h3 (a / 256) (by omega)
      have p3 := h4 (a / 256) (a % 256) (by omega) (by omega)
      have e1 : 256 * (a / 256) + a % 256 = a := by omega
      rw [e1] at p3
      have hg := hG a
      simp only [Int.toNat_natCast]
      generalize G a = ga at *
      generalize u (a / 256) = q at *
      have j1 : (0 : Int) ≤ (a : Int) / 256 := by omega
      have j2 : (a : Int) / 256 < 4352 := by omega
      have j3 : (0 : Int) ≤ (a : Int) % 256 := by omega
      have j4 : (a : Int) % 256 < 256 := by omega
      have j5 : (q : Int) < (n : Int) := by omega
      have i1 : ¬ (a : Int) < 0 := by omega
      have i2 : ¬ (1114111 : Int) < (a : Int) := by omega
      clear h3 h4 c0 c1 hG e1
      go_enter Try.func18, Try.ntmps18
      go_wp2
      go_region
      go_wp2
      go_ret
      exact ⟨rfl, (Below.refl _ _).drew⟩
theorem get_nil (r : Int) (w : World) : Calls Try.prog 18 #[.pointer none, .int .i32 r] w fun e w' => e = .returned (.int .i64 0) ∧ Below w.heap.size w w' := by
  go_enter Try.func18, Try.ntmps18
  go_wp2
  go_ret
  exact ⟨rfl, Below.refl _ _⟩
theorem blocks_any (T : Nat) (o : Int) (G : Nat → Int) (w : World) (h : Tr w T o G) : Calls Try.prog 23 #[.pointer (some ⟨T, 0, none⟩)] w fun e w' => e = .returned (.int .i64 ((dd G 4352).length : Nat)) ∧ Below w.heap.size w w' := by
  obtain ⟨b, cap, u, h1, h2, h3, h4, h5, -, -⟩ := h
  generalize (dd G 4352).length = n at *
  clear h3 h4
  go_enter Try.func23, Try.ntmps23
  go_wp2
  go_ret
  exact ⟨rfl, Below.refl _ _⟩
set_option maxHeartbeats 2000000 in
set_option maxRecDepth 100000 in
theorem blocks_nil (w : World) : Calls Try.prog 23 #[.pointer none] w fun e w' => e = .returned (.int .i64 0) ∧ Below w.heap.size w w' := by
  go_enter Try.func23, Try.ntmps23
  go_wp2
  go_ret
  exact ⟨rfl, Below.refl _ _⟩
set_option maxHeartbeats 2000000 in
set_option maxRecDepth 100000 in
theorem set_nil (c : Int) (w : World) : Calls Try.prog 20 #[.pointer none, .int .i64 c] w fun e w' => e = .returned (.slice none 0 0) ∧ Below w.heap.size w w' := by
  go_enter Try.func20, Try.ntmps20
  go_wp2
  go_ret
  exact ⟨rfl, Below.refl _ _⟩
set_option maxHeartbeats 2000000 in
set_option maxRecDepth 100000 in
theorem classes_nil (w : World) : Calls Try.prog 25 #[.pointer none] w fun e w' => e = .returned (.slice none 0 0) ∧ Below w.heap.size w w' := by
  go_enter Try.func25, Try.ntmps25
  go_wp2
  go_ret
  exact ⟨rfl, Below.refl _ _⟩
set_option maxHeartbeats 2000000 in
set_option maxRecDepth 100000 in
theorem same_nil1 (w : World) : Calls Try.prog 27 #[.pointer none, .pointer none] w fun e w' => e = .returned (.bool true) ∧ Below w.heap.size w w' := by
  go_enter Try.func27, Try.ntmps27
  go_wp2
  go_ret
  exact ⟨rfl, Below.refl _ _⟩
set_option maxHeartbeats 2000000 in
set_option maxRecDepth 100000 in
theorem same_nil2 (T : Nat) (w : World) : Calls Try.prog 27 #[.pointer (some ⟨T, 0, none⟩), .pointer none] w fun e w' => e = .returned (.bool false) ∧ Below w.heap.size w w' := by
  go_enter Try.func27, Try.ntmps27
  go_wp2
  go_ret
  exact ⟨rfl, Below.refl _ _⟩
set_option maxHeartbeats 2000000 in
set_option maxRecDepth 100000 in
theorem same_nil3 (T : Nat) (w : World) : Calls Try.prog 27 #[.pointer none, .pointer (some ⟨T, 0, none⟩)] w fun e w' => e = .returned (.bool false) ∧ Below w.heap.size w w' := by
  have he : ∀ w, (binOp BinOp.eql 26 (.pointer none) (.pointer (some ⟨T, 0, none⟩))).run Try.prog w = .ok (.bool false) w := fun w => by kernel_rfl
  go_enter Try.func27, Try.ntmps27
  go_wp2
  go_ret
  exact ⟨rfl, Below.refl _ _⟩
end Go.Proofs.Ytphhdkffnboboaa

namespace Go.Proofs
open Go.Shelf
def Try.containsE_ren : Go.Shelf.Ren := ⟨fun | 8 => 41 | 6 => 71 | n => n, fun | 22 => 30 | 23 => 72 | 25 => 74 | 4 => 4 | 3 => 3 | 0 => 0 | n => n, fun | n => n⟩
theorem Try.containsE : Go.Proofs.SlLaysH0.n8 Try.prog Try.containsE_ren := {
  mixed := by kernel_rfl
  f6 := ⟨Try.f71.name, by decide, Try.func71.trans (congrArg some (by kernel_rfl))⟩
  f8 := ⟨Try.f41.name, by decide, Try.func41.trans (congrArg some (by kernel_rfl))⟩
  t0 := Try.underlying0
  a0 := Try.isAgg0
  z0 := Try.sizeOf0
  v0 := Try.zeroValue0
  t3 := Try.underlying3
  a3 := Try.isAgg3
  z3 := Try.sizeOf3
  v3 := Try.zeroValue3
  t4 := Try.underlying4
  a4 := Try.isAgg4
  z4 := Try.sizeOf4
  v4 := Try.zeroValue4
  t22 := Try.underlying30
  a22 := Try.isAgg30
  z22 := Try.sizeOf30
  v22 := Try.zeroValue30
  t25 := Try.underlying74
  a25 := Try.isAgg74
  z25 := Try.sizeOf74
  v25 := Try.zeroValue74 }
end Go.Proofs

namespace Go.Proofs.Ytphhdkffnboboaa
open Go.RowKit Go.Shelf
open Go.Lib Go.Great Go.Maps

structure En where
  A : Option Addr
  cap : Nat
  xs : List Rng
  c : Int
instance : Inhabited En := ⟨⟨none, 0, [], 0⟩⟩
def cellE (e : En) : List Value := [.slice e.A e.xs.length e.cap, .int .i64 e.c]
def cls (c : Int) : Bool := decide (0 ≤ c) && decide (c ≤ 255)
/-- An entry that can't be. -/
def wrongE (e : En) : Bool := !cls e.c || !right e.xs
/-- Entries one behind the other, each with its own ranges. -/
def EnAt (w : World) (b o : Nat) (es : List En) : Prop := ∀ i e, es[i]? = some e → w.cell? ⟨b, o + i * 2, none⟩ = some (.slice e.A e.xs.length e.cap) ∧ w.cell? ⟨b, o + i * 2 + 1, none⟩ = some (.int .i64 e.c)
def ES (w : World) (B : Nat) (A : Option Addr) (cap : Nat) (es : List En) : Prop :=
  es.length ≤ cap ∧ cap ≤ maxLen ∧ (∀ e ∈ es, RS w B e.A e.cap e.xs) ∧ (es ≠ [] → ∃ b o, A = some ⟨b, o, none⟩ ∧ b < B ∧ EnAt w b o es)
theorem EnAt.below {w w' : World} {b o B : Nat} {es : List En} (h : EnAt w b o es) (hb : b < B) (hB : Below B w w') : EnAt w' b o es := fun i x hx => by
  obtain ⟨h1, h2⟩ := h i x hx
  exact ⟨(hB.cell (p := ⟨b, o + i * 2, none⟩) hb).trans h1, (hB.cell (p := ⟨b, o + i * 2 + 1, none⟩) hb).trans h2⟩
theorem ES.below {w w' : World} {B : Nat} {A : Option Addr} {cap : Nat} {es : List En} (h : ES w B A cap es) (hB : Below B w w') : ES w' B A cap es :=
  ⟨h.1, h.2.1, fun e he => (h.2.2.1 e he).below hB, fun hn => by obtain ⟨b, o, rfl, hb, hR⟩ := h.2.2.2 hn; exact ⟨b, o, rfl, hb, hR.below hb hB⟩⟩
theorem ES.mono {w : World} {B B' : Nat} {A : Option Addr} {cap : Nat} {es : List En} (h : ES w B A cap es) (hB : B ≤ B') : ES w B' A cap es :=
  ⟨h.1, h.2.1, fun e he => (h.2.2.1 e he).mono hB, fun hn => by obtain ⟨b, o, rfl, hb, hR⟩ := h.2.2.2 hn; exact ⟨b, o, rfl, by omega, hR⟩⟩

theorem isClass_any (c : Int) (w : World) : Calls Try.prog 40 #[.int .i64 c] w fun e w' => e = .returned (.bool (cls c)) ∧ w' = w := by
  unfold cls
  by_cases c1 : 0 ≤ c
  · by_cases c2 : c ≤ 255
    · go_enter Try.func40, Try.ntmps40
      go_wp2
      go_ret
      exact ⟨by simp [c1, c2], rfl⟩
    · have d : decide (c ≤ 255) = false := by simpa using c2
      go_enter Try.func40, Try.ntmps40
      go_wp2
      go_ret
      exact ⟨by simp, rfl⟩
  · have d : decide (0 ≤ c) = false := by simpa using c1
    go_enter Try.func40, Try.ntmps40
    go_wp2
    go_ret
    exact ⟨by simp, rfl⟩
set_option maxHeartbeats 1000000 in
theorem isWrong_any (x : En) (w : World) (h : RS w w.heap.size x.A x.cap x.xs) : Calls Try.prog 42 #[.agg (cellE x).toArray] w fun e w' => e = .returned (.bool (wrongE x)) ∧ Below w.heap.size w w' := by
  obtain ⟨A, cap, xs, c⟩ := x
  unfold wrongE
  show Calls Try.prog 42 #[.agg #[.slice A xs.length cap, .int .i64 c]] w _
  have h : RS w w.heap.size A cap xs := h
  have hb := below_new w (.cells #[.slice A xs.length cap, .int .i64 c] 72)
  have C1 := Lib.hid (isClass_any c)
  have C2 := Lib.hid (right_any A cap xs _ ((h.below hb).mono (by simp)))
  have HB := Lib.hid hb
  show Calls Try.prog 42 #[.agg #[.slice A xs.length cap, .int .i64 c]] w fun e w' => e = .returned (.bool (!cls c || !right xs)) ∧ Below w.heap.size w w'
  generalize right xs = ri at *
  generalize xs.length = n at *
  clear h hb
  cases hc : cls c with
  | true =>
    have C1 := Lib.hid (by rw [hc] at C1; exact C1.out)
    go_enter Try.func42, Try.ntmps42
    go_wp2_with fail
    refine (C1.out _).mono ?_
    rintro e w1 ⟨rfl, rfl⟩
    go_wp2_with fail
    refine C2.out.mono ?_
    rintro e w2 ⟨rfl, hb2⟩
    have hbz := HB.out.trans (hb2.mono HB.out.size)
    go_wp2_with fail
    go_ret
    exact ⟨by simp, hbz⟩
  | false =>
    have C1 := Lib.hid (by rw [hc] at C1; exact C1.out)
    have hbz := HB.out
    go_enter Try.func42, Try.ntmps42
    go_wp2_with fail
    refine (C1.out _).mono ?_
    rintro e w1 ⟨rfl, rfl⟩
    go_wp2_with fail
    go_ret
    exact ⟨by simp, hbz⟩
end Go.Proofs.Ytphhdkffnboboaa

namespace Go.Proofs.Ytphhdkffnboboaa
open Go.RowKit Go.Shelf
open Go.Lib Go.Great Go.Maps

theorem indexE_empty (A : Option Addr) (cap : Nat) (fv : Value) (w : World) : Calls Try.prog 71 #[.slice A 0 cap, fv] w fun e w' => e = .returned (.int .i64 (-1)) ∧ w' = w := by
  go_enter Try.func71, Try.ntmps71
  go_wp2
  go_loopw [8] (fun i wr => i = .int .i64 0 ∧ wr = w) (fun _ _ => 0)
  case atStart => exact ⟨rfl, rfl⟩
  case round =>
    obtain ⟨rfl, rfl⟩ := hrel
    go_wp2
    go_ret
    exact ⟨rfl, rfl⟩
theorem containsE_empty (A : Option Addr) (cap : Nat) (fv : Value) (w : World) : Calls Try.prog 41 #[.slice A 0 cap, fv] w fun e w' => e = .returned (.bool false) ∧ w' = w := by
  have C := Lib.hid (indexE_empty A cap fv w)
  go_enter Try.func41, Try.ntmps41
  go_wp2_with fail
  refine C.out.mono ?_
  rintro e w1 ⟨rfl, rfl⟩
  go_wp2
  go_ret
  exact ⟨rfl, rfl⟩
theorem containsE_any (A : Option Addr) (cap : Nat) (es : List En) (w : World) (h : ES w w.heap.size A cap es) :
    Calls Try.prog 41 #[.slice A es.length cap, .func (.func 42) #[] #[]] w fun e w' => e = .returned (.bool (es.any wrongE)) ∧ Below w.heap.size w w' := by
  have eg : ∀ args w, (callFunc 42 args).run Try.prog w = .ok (.enter 42 args) w := enters_of Try.func42 (by kernel_rfl) rfl
  by_cases hn : es = []
  · subst hn
    exact (containsE_empty A cap _ w).mono fun e w' h => ⟨h.1, by rw [h.2]; exact Below.refl _ _⟩
  · obtain ⟨b, o, rfl, hb, hE⟩ := h.2.2.2 hn
    have hm : es.length ≤ maxLen := by have := h.1; have := h.2.1; omega
    unfold maxLen at hm
    let α := {e : En // RS w w.heap.size e.A e.cap e.xs}
    have : Inhabited α := ⟨⟨⟨none, 0, [], 0⟩, ⟨Nat.le_refl _, Nat.zero_le _, by simp, by simp⟩⟩⟩
    let zs : List α := es.attachWith _ h.2.2.1
    have hz1 : zs.map Subtype.val = es := List.attachWith_map_subtype_val _ 
    have hzl : zs.length = es.length := by rw [← hz1, List.length_map]
    have hcon := AnyQ.slices_ContainsFunc Try.containsE 2 Try.isAgg72 Try.sizeOf72 (fun x : α => cellE x.1) (fun _ => rfl) (fun x => wrongE x.1) 42 #[] eg b o zs.length cap zs w
      (fun W x hb' => (isWrong_any x.1 W ((x.2.below hb').mono hb'.size)).mono fun e w' hh => ⟨hh.1, hb'.trans (hh.2.mono hb'.size)⟩) (Nat.le_refl _) (by omega) hb (fun j hj i v hi => by
        have hx : zs[j]? = some zs[j]! := by
          rw [List.getElem?_eq_getElem hj, List.getElem!_eq_getElem?_getD, List.getElem?_eq_getElem hj]; rfl
        have hx2 : es[j]? = some (zs[j]!).1 := by rw [← hz1, List.getElem?_map, hx]; rfl
        obtain ⟨h1, h2⟩ := hE j _ hx2
        generalize (zs[j]!).1 = y at hi h1 h2
        match i, hi with
        | 0, hi => simp [cellE] at hi; rw [← hi]; exact h1
        | 1, hi => simp [cellE] at hi; rw [← hi]; exact h2
        | i + 2, hi => simp [cellE] at hi)
    rw [List.take_length, hzl] at hcon
    have hany : zs.any (fun x => wrongE x.1) = es.any wrongE := by rw [← hz1, List.any_map]; rfl
    rw [hany] at hcon
    exact hcon
theorem everything_any (w : World) : Calls Try.prog 43 #[] w fun e w' => ∃ out : List Rng, right out = true ∧ (∀ r : Int, hasR out r = (decide (0 ≤ r) && decide (r ≤ 1114111))) ∧ out.length ≤ 1 ∧ HoldsR w.heap.size 70 out w e w' := by
  have C := Lib.hid (not_any none 0 [] w ⟨by simp, by unfold maxLen; omega, by simp, by simp⟩ (.inl ⟨rfl, rfl⟩) (by simp))
  go_enter Try.func43, Try.ntmps43
  go_wp2_with fail
  refine C.out.mono ?_
  rintro e w1 ⟨out, h1, h2, h3, v, rfl, h4, h5⟩
  have H := Lib.hid (And.intro h1 (And.intro h2 (And.intro h3 (And.intro h4 h5))))
  clear h1 h2 h3 h4 h5
  go_wp2_with fail
  go_ret
  refine ⟨out, H.out.1, fun r => ?_, by have := H.out.2.2.1; simpa using this, _, rfl, H.out.2.2.2.1, H.out.2.2.2.2⟩
  rw [H.out.2.1]
  have e : known [] = [] := by unfold known; split <;> rfl
  rw [e]
  simp [notR, hasR]
end Go.Proofs.Ytphhdkffnboboaa

