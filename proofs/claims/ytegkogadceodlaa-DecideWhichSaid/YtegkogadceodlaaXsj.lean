/-
  The walk of newState.
  Contract: Matches, by the states that step makes.
  Matches answers by a function of the expression and the marks alone.
  The law DecideSeen: its walk, given that the calls of awake hand back yes.
-/
import Derived.Test.YtegkogadceodlaaXsi
import Derived.Test.YtegkogadceodlaaXsa
import Derived.Test.YtegkogadceodlaaXsh
import Derived.BigQuiet
namespace Go.Proofs.Ytegkogadceodlaa
open Go.RowKit Go.Shelf Go.Lib Go.Maps

theorem own_shapeS {w : World} {B e z n : Nat} {v : Value} {xs : List Value} (h : w.ownsRow B e z v n xs) : ∃ A cap, v = .slice A n cap := by
  rcases h.2 with ⟨h1, h2⟩ | ⟨g, c, cur, h1, _⟩
  · subst h2; exact ⟨none, 0, h1⟩
  · exact ⟨_, c, h1⟩
set_option maxHeartbeats 16000000 in
set_option maxRecDepth 100000 in
theorem newS_any : ∀ N e, szE e ≤ N → szE e ≤ 100000 → ∀ v w, Nd w w.heap.size e v → Calls Try.prog 38 #[v] w (NewS w e) := by
  intro N
  induction N with
  | zero => intro e he; have := szE_pos e; omega
  | succ N ih =>
    intro e he hmx v w h
    obtain ⟨k, c, ks⟩ := e
    obtain ⟨_, _, A, cap, rfl, hks⟩ := Nd_iff.1 h
    have hkid := fun i f (hf : ks[i]? = some f) => szE_kid (e := .mk k c ks) (List.mem_of_getElem? hf)
    have hln : ks.length ≤ 100000 := by
      have h1 := len_le_szL ks
      have h2 : szE (.mk k c ks) = 1 + szL ks := by simp [szE, szL]
      omega
    simp only [E.k, E.c, E.ks] at hks ⊢
    obtain ⟨n, hn⟩ : ∃ n, ks.length = n := ⟨_, rfl⟩
    obtain ⟨W1, hW1⟩ : ∃ W, w.alloc (.cells #[.int .i64 k, .int .i64 c, .slice A n cap] 33) = W := ⟨_, rfl⟩
    obtain ⟨W2, hW2⟩ : ∃ W, W1.alloc (.cells #[.int .i64 k, .int .i64 c, .slice A n cap, .slice none 0 0, .bool false, .bool false, .bool false] 76) = W := ⟨_, rfl⟩
    have z1 : W1.heap.size = w.heap.size + 1 := by rw [← hW1]; simp
    have b1 : Below w.heap.size w W1 := by rw [← hW1]; exact below_new _ _
    have b2 : Below W1.heap.size W1 W2 := by rw [← hW2]; exact below_new _ _
    have x1 : Cells W1 w.heap.size 33 #[.int .i64 k, .int .i64 c, .slice A n cap] := by rw [← hW1]; exact cells_new _ _ _
    have x2 : Cells W2 w.heap.size 33 #[.int .i64 k, .int .i64 c, .slice A n cap] := x1.on b2
    have y2 : Cells W2 (w.heap.size + 1) 76 (sbC k c (.slice A n cap) (.slice none 0 0) false false false) := by rw [← z1, ← hW2]; exact cells_new _ _ _
    have b02 := b1.trans (b2.mono (by omega))
    have st : NwL W1 W2 (w.heap.size + 1) k c (.slice A n cap) (.slice none 0 0) ks [] 0 := ⟨y2, World.ownsRow_nil _ _ _ _, rfl, by unfold FreshS.FreshL; trivial, by unfold SB.At.AtL; trivial, by simp [SB.ids.idsL], fun x hx => by simp [SB.ids.idsL] at hx, fun x hx => by simp [SB.rows.rowsL] at hx, b2⟩
    obtain ⟨i153, h153⟩ : ∃ i, Try.prog.info? 72 = some i ∧ i.zero = some (.pointer none) ∧ i.size = 1 ∧ i.bytes = 8 := ⟨_, rfl, rfl, rfl, rfl⟩
    have HI := Lib.hid ih
    have HKD := Lib.hid hkid
    have H := Lib.hid (And.intro hks (And.intro he (And.intro hmx (And.intro hn (And.intro st (And.intro x1 (And.intro b1 z1)))))))
    have HW := Lib.hid (And.intro hW1 hW2)
    have J := Lib.hid h153
    rw [hn] at hln ⊢
    have d2 : W2.cell? ⟨w.heap.size, 2, none⟩ = some (.slice A n cap) := x2.cell 2
    clear ih hkid hks he hmx hn st x1 x2 y2 b02 z1 b1 b2 hW1 hW2 h153 h
    go_enter Try.func38, Try.ntmps38
    go_upto_region 3 with fail
    rw [HW.out.1, HW.out.2]
    go_wp2_with fail
    clear d2
    go_loopw [4, 14] (fun u4 u14 wr => ∃ (i : Nat) (pv : Value) (ss : List SB), u14 = .int .i64 (i : Int) ∧ i ≤ n ∧ u4 = .int .i64 ((cntE ss : Nat) : Int) ∧ NwL W1 wr (w.heap.size + 1) k c (.slice A n cap) pv ks ss i) (fun _ u14 _ => n - (RowKit.intOf u14).toNat)
    case atStart => exact ⟨0, _, [], rfl, by omega, rfl, H.out.2.2.2.2.1⟩
    case round =>
      obtain ⟨i, pv, ss, rfl, hi, rfl, hP⟩ := hrel
      obtain ⟨cn, hcn⟩ : ∃ z, cntE ss = z := ⟨_, rfl⟩
      have hcl := cntE_le ss
      rw [hP.l, hcn] at hcl
      by_cases hlt : i < n
      · have i1 : (i : Int) < (n : Int) := by omega
        obtain ⟨f, hf⟩ : ∃ f, ks[i]? = some f := ⟨ks[i]'(by rw [H.out.2.2.2.1]; exact hlt), List.getElem?_eq_getElem _⟩
        obtain ⟨b, o, rfl, hbl, hr⟩ := H.out.1.r (by rintro rfl; simp at hf)
        obtain ⟨A', cap', c0, c1, c2, hNd⟩ := row_get' hr hf
        have hbw0 : Below w.heap.size w wr := H.out.2.2.2.2.2.2.1.trans (hP.b.mono (by have := H.out.2.2.2.2.2.2.2; omega))
        have d0 := (hbw0.cell (p := ⟨b, o + i * 3, none⟩) hbl).trans c0
        have d1 := (hbw0.cell (p := ⟨b, o + i * 3 + 1, none⟩) hbl).trans c1
        have d2 := (hbw0.cell (p := ⟨b, o + i * 3 + 2, none⟩) hbl).trans c2
        have nb := below_new wr (.cells #[.int .i64 f.k, .int .i64 f.c, .slice A' f.ks.length cap'] 33)
        obtain ⟨W3, hW3⟩ : ∃ W, wr.alloc (.cells #[.int .i64 f.k, .int .i64 f.c, .slice A' f.ks.length cap'] 33) = W := ⟨_, rfl⟩
        rw [hW3] at nb
        have hbw := hbw0.trans (nb.mono hbw0.size)
        have hsz := HKD.out i f hf
        have C := HI.out f (by have := H.out.2.1; omega) (by have := H.out.2.2.1; omega) (.agg #[.int .i64 f.k, .int .i64 f.c, .slice A' f.ks.length cap']) W3 ((hNd.below hbw).mono hbw.size)
        have HC := Lib.hid C
        have HP := Lib.hid (And.intro hP (And.intro nb (And.intro hf (And.intro hcn hlt))))
        have HW3 := Lib.hid hW3
        rw [hcn]
        clear C hP nb hf hW3 hbw hbw0 hsz hr c0 c1 c2 hNd hcn
        go_wp2_with fail
        rw [HW3.out]
        refine HC.out.mono ?_
        rintro r w4 ⟨s, rfl, hfr, hat, hnd, hids, hrows, hb4⟩
        have hb40 := HP.out.2.1.trans (hb4.mono HP.out.2.1.size)
        have hsz3 := HP.out.2.1.size
        have hadd := fun (g cp : Nat) (w6 : World) k1 k2 k3 => HP.out.1.add (by have := H.out.2.2.2.2.2.2.2; omega) hb40 HP.out.2.2.1 hfr hat hnd (fun x hx => by have := hids x hx; omega) (fun x hx => by have := hrows x hx; omega) (g := g) (cp := cp) (w3 := w6) k1 k2 k3
        have h4 := HP.out.1.on (by have := HP.out.1.b.size; omega) hb40
        have e3 : w4.cell? ⟨w.heap.size + 1, 3, none⟩ = some pv := h4.c.cell 3
        have g3 := h4.c.froz 3
        have gp := h4.c.lt
        have nb4 := below_new w4 (.cells #[.pointer (some ⟨s.p, 0, none⟩)] 72)
        have H5 := Lib.hid (And.intro (ownsRow_below h4.o nb4) (And.intro (show (w4.alloc (.cells #[.pointer (some ⟨s.p, 0, none⟩)] 72)).cell? ⟨w4.heap.size, 0, none⟩ = some (.pointer (some ⟨s.p, 0, none⟩)) by rw [World.cell?_alloc_new]; rfl) gp))
        have HA := Lib.hid hadd
        clear h4 nb4 hb4 hb40 hsz3 hadd hfr hat hnd hids hrows d0 d1 d2
        go_wp2_with (first
          | (at_builtin
             refine wpList_append_one rfl (.tmp 24) (.tmp 26) 74 rfl (w.heap.size + 1 + 1) 72 i153 (.pointer none) 8 Try.underlying74 J.out.1 J.out.2.1 J.out.2.2.1 J.out.2.2.2 (by decide) rfl _ i (ptrs ss) rfl H5.out.1 ⟨w4.heap.size, 0, none⟩ (.pointer (some ⟨s.p, 0, none⟩)) rfl H5.out.2.1 rfl (by omega) (by have := H5.out.2.2; simp; omega) _ rfl ?_)
          | fail)
        intro g cp w6 ho6 hg6 hat6 hl6
        have hadd := HA.out g cp w6 ho6 hg6 (by simpa using hat6)
        have t0 : w6.cell? ⟨w.heap.size + 1, 3, none⟩ = some pv := hadd.1.cell 3
        have t1 := hadd.1.froz 3
        have t2 := hadd.1.lt
        obtain ⟨v4, v5, v6⟩ := hadd.2.1
        have HN := Lib.hid hadd.2.2
        clear hadd ho6 hg6 hat6 hl6 e3 g3 gp
        cases hem : s.em with
        | true =>
          rw [hem] at v4
          have hend : ∃ (i2 : Nat) (pv2 : Value) (ss2 : List SB), Value.int .i64 ((i : Int) + 1) = .int .i64 (i2 : Int) ∧ i2 ≤ n ∧ Value.int .i64 ((cn : Int) + 1) = .int .i64 ((cntE ss2 : Nat) : Int) ∧ NwL W1 (w6.setCell ⟨w.heap.size + 1, 3, none⟩ (.slice (some ⟨g, 0, none⟩) (i + 1) cp)) (w.heap.size + 1) k c (.slice (some ⟨b, o, none⟩) n cap) pv2 ks ss2 i2 :=
            ⟨i + 1, _, ss ++ [s], by simp, by have := HP.out.2.2.2.2; omega, by rw [cntE_snoc, hem, HP.out.2.2.2.1]; simp, HN.out⟩
          have HEND := Lib.hid hend
          clear hend hem
          go_wp2_with fail
          go_roundw
          case rel => exact HEND.out
          case measure => have := HP.out.2.2.2.2; simp [RowKit.intOf]; omega
        | false =>
          rw [hem] at v4
          have hend : ∃ (i2 : Nat) (pv2 : Value) (ss2 : List SB), Value.int .i64 ((i : Int) + 1) = .int .i64 (i2 : Int) ∧ i2 ≤ n ∧ Value.int .i64 (cn : Int) = .int .i64 ((cntE ss2 : Nat) : Int) ∧ NwL W1 (w6.setCell ⟨w.heap.size + 1, 3, none⟩ (.slice (some ⟨g, 0, none⟩) (i + 1) cp)) (w.heap.size + 1) k c (.slice (some ⟨b, o, none⟩) n cap) pv2 ks ss2 i2 :=
            ⟨i + 1, _, ss ++ [s], by simp, by have := HP.out.2.2.2.2; omega, by rw [cntE_snoc, hem, HP.out.2.2.2.1]; simp, HN.out⟩
          have HEND := Lib.hid hend
          clear hend hem
          go_wp2_with fail
          go_roundw
          case rel => exact HEND.out
          case measure => have := HP.out.2.2.2.2; simp [RowKit.intOf]; omega
      · obtain rfl : i = n := by omega
        have i1 : ¬ (i : Int) < (i : Int) := by omega
        have i1' : decide ((i : Int) < (i : Int)) = false := by simp
        have hlen := H.out.2.2.2.1
        have xb : Cells wr w.heap.size 33 #[.int .i64 k, .int .i64 c, .slice A i cap] := (hP.b.block _ H.out.2.2.2.2.2.1.lt).trans H.out.2.2.2.2.2.1
        have k0 : wr.cell? ⟨w.heap.size, 0, none⟩ = some (.int .i64 k) := xb.cell 0
        obtain ⟨B, d, rfl⟩ := own_shapeS hP.o
        have k3 : wr.cell? ⟨w.heap.size + 1, 3, none⟩ = some (.slice B i d) := hP.c.cell 3
        have k4 : wr.cell? ⟨w.heap.size + 1, 4, none⟩ = some (.bool false) := hP.c.cell 4
        have f4 := hP.c.froz 4
        have hz := hP.c.lt
        have hfin : ∀ W, Fz (fun x => x = w.heap.size + 1) wr W → Cells W (w.heap.size + 1) 76 (sbC k c (.slice A i cap) (.slice B i d) (emK k ss) false false) → NewS w (.mk k c ks) (.returned (.pointer (some ⟨w.heap.size + 1, 0, none⟩))) W := fun W hF hc => by
          have hP' := hP
          rw [← hlen] at hP'
          obtain ⟨s, q1, q2, q3, q4, q5, q6, q7⟩ := hP'.done (by have := H.out.2.2.2.2.2.2.2; omega) ⟨_, _, _, rfl⟩ (by omega) hF (by rw [hlen]; exact hc)
          have hz1 := H.out.2.2.2.2.2.2.2
          exact ⟨s, q1, q2, q3, q4, fun x hx => by have := q5 x hx; omega, fun x hx => by have := q6 x hx; omega, H.out.2.2.2.2.2.2.1.trans (q7.mono (by omega))⟩
        have hset : ∀ v, emK k ss = v → NewS w (.mk k c ks) (.returned (.pointer (some ⟨w.heap.size + 1, 0, none⟩))) (wr.setCell ⟨w.heap.size + 1, 4, none⟩ (.bool v)) := fun v hv => hfin _ (Fz.set (X := fun x => x = w.heap.size + 1) wr _ 4 _ rfl) (by rw [hv]; exact hP.c.set 4 _)
        have hnone : emK k ss = false → NewS w (.mk k c ks) (.returned (.pointer (some ⟨w.heap.size + 1, 0, none⟩))) wr := fun hv => hfin _ (Fz.refl _ _) (by rw [hv]; exact hP.c)
        have hl := hP.l
        rw [hcn]
        have HSET := Lib.hid (And.intro hset (And.intro hnone (And.intro hcn hl)))
        clear hP hfin hset hnone xb hlen hcn hl
        by_cases e6 : k = 6
        · have q6 : (k == 6) = true := by simp; omega
          have HF := Lib.hid (HSET.out.1 true (by unfold emK; rw [if_pos (by omega)]))
          clear e6
          go_wp2_with fail
          go_ret
          exact HF.out
        · skip
          by_cases e8 : k = 8
          · have q6 : (k == 6) = false := by simp; omega
            have q8 : (k == 8) = true := by simp; omega
            have HF := Lib.hid (HSET.out.1 true (by unfold emK; rw [if_pos (by omega)]))
            clear e8
            go_wp2_with fail
            go_ret
            exact HF.out
          · skip
            by_cases e9 : k = 9
            · have q6 : (k == 6) = false := by simp; omega
              have q8 : (k == 8) = false := by simp; omega
              have q9 : (k == 9) = true := by simp; omega
              have HF := Lib.hid (HSET.out.1 true (by unfold emK; rw [if_pos (by omega)]))
              clear e9
              go_wp2_with fail
              go_ret
              exact HF.out
            · skip
              by_cases e5 : k = 5
              · have q6 : (k == 6) = false := by simp; omega
                have q8 : (k == 8) = false := by simp; omega
                have q9 : (k == 9) = false := by simp; omega
                have q5 : (k == 5) = true := by simp; omega
                by_cases hc : 0 < cn
                · have HF := Lib.hid (HSET.out.1 true (by unfold emK; rw [if_neg (by omega), if_pos e5, HSET.out.2.2.1]; simpa using hc))
                  have j1 : decide ((0 : Int) < (cn : Int)) = true := by simp; omega
                  have j2 : (0 : Int) < (cn : Int) := by omega
                  clear e5
                  go_wp2_with fail
                  go_ret
                  exact HF.out
                · have HF := Lib.hid (HSET.out.1 false (by unfold emK; rw [if_neg (by omega), if_pos e5, HSET.out.2.2.1]; simpa using hc))
                  have j1 : decide ((0 : Int) < (cn : Int)) = false := by simp; omega
                  have j2 : ¬ (0 : Int) < (cn : Int) := by omega
                  clear e5
                  go_wp2_with fail
                  go_ret
                  exact HF.out
              · skip
                by_cases e4 : k = 4
                · have q6 : (k == 6) = false := by simp; omega
                  have q8 : (k == 8) = false := by simp; omega
                  have q9 : (k == 9) = false := by simp; omega
                  have q5 : (k == 5) = false := by simp; omega
                  have q4 : (k == 4) = true := by simp; omega
                  by_cases hc : cn = i
                  · have HF := Lib.hid (HSET.out.1 true (by unfold emK; rw [if_neg (by omega), if_neg (by omega), if_pos (by omega), HSET.out.2.2.1, HSET.out.2.2.2]; simpa using hc))
                    have j1 : ((cn : Int) == (i : Int)) = true := by simp; omega
                    clear hc
                    clear e4
                    go_wp2_with fail
                    go_ret
                    exact HF.out
                  · have HF := Lib.hid (HSET.out.1 false (by unfold emK; rw [if_neg (by omega), if_neg (by omega), if_pos (by omega), HSET.out.2.2.1, HSET.out.2.2.2]; simpa using hc))
                    have j1 : ((cn : Int) == (i : Int)) = false := by simp; omega
                    clear e4
                    go_wp2_with fail
                    go_ret
                    exact HF.out
                · skip
                  by_cases e7 : k = 7
                  · have q6 : (k == 6) = false := by simp; omega
                    have q8 : (k == 8) = false := by simp; omega
                    have q9 : (k == 9) = false := by simp; omega
                    have q5 : (k == 5) = false := by simp; omega
                    have q4 : (k == 4) = false := by simp; omega
                    have q7 : (k == 7) = true := by simp; omega
                    by_cases hc : cn = i
                    · have HF := Lib.hid (HSET.out.1 true (by unfold emK; rw [if_neg (by omega), if_neg (by omega), if_pos (by omega), HSET.out.2.2.1, HSET.out.2.2.2]; simpa using hc))
                      have j1 : ((cn : Int) == (i : Int)) = true := by simp; omega
                      clear hc
                      clear e7
                      go_wp2_with fail
                      go_ret
                      exact HF.out
                    · have HF := Lib.hid (HSET.out.1 false (by unfold emK; rw [if_neg (by omega), if_neg (by omega), if_pos (by omega), HSET.out.2.2.1, HSET.out.2.2.2]; simpa using hc))
                      have j1 : ((cn : Int) == (i : Int)) = false := by simp; omega
                      clear e7
                      go_wp2_with fail
                      go_ret
                      exact HF.out
                  · skip
                    have q6 : (k == 6) = false := by simp; omega
                    have q8 : (k == 8) = false := by simp; omega
                    have q9 : (k == 9) = false := by simp; omega
                    have q5 : (k == 5) = false := by simp; omega
                    have q4 : (k == 4) = false := by simp; omega
                    have q7 : (k == 7) = false := by simp; omega
                    have HF := Lib.hid (HSET.out.2.1 (by unfold emK; rw [if_neg (by omega), if_neg (by omega), if_neg (by omega)]))
                    go_wp2_with fail
                    go_ret
                    exact HF.out
end Go.Proofs.Ytegkogadceodlaa

namespace Go.Proofs.Ytegkogadceodlaa
open Go.RowKit Go.Shelf Go.Lib Go.Maps

def runS : List Int → Nat → SB → Bool → Bool
  | [], _, _, en => en
  | m :: r, i, s, _ => if (stepS m s (decide (i = 0))).lv then runS r (i + 1) (stepS m s (decide (i = 0))) (stepS m s (decide (i = 0))).en else false
def MatOk (w : World) (e : E) (ms : List Int) (r : Ending) (w' : World) : Prop := Below w.heap.size w w' ∧ ((rightE e = false ∧ r = .returned (.bool false)) ∨ (rightE e = true ∧ ∃ s, FreshS e s ∧ r = .returned (.bool (runS ms 0 s s.em))))
set_option maxHeartbeats 16000000 in
set_option maxRecDepth 100000 in
theorem matches_any (e : E) (v : Value) (ms : List Int) (Am : Option Addr) (cm : Nat) (w : World) (h : Nd w w.heap.size e v) (hz : szE e ≤ 100000) (hI : IS w w.heap.size ms Am cm) :
    Calls Try.prog 15 #[v, .slice Am ms.length cm] w (MatOk w e ms) := by
  obtain ⟨_, _, A, cap, rfl, hks⟩ := Nd_iff.1 h
  obtain ⟨nk, hnk⟩ : ∃ n, e.ks.length = n := ⟨_, rfl⟩
  rw [hnk] at h ⊢
  obtain ⟨n, hn⟩ : ∃ n, ms.length = n := ⟨_, rfl⟩
  have hnb : n ≤ 9223372036854775807 := by have := hI.l; have := hI.m; unfold maxLen at this; omega
  rw [hn]
  obtain ⟨W1, hW1⟩ : ∃ W, w.alloc (.cells #[.int .i64 e.k, .int .i64 e.c, .slice A nk cap] 33) = W := ⟨_, rfl⟩
  have b1 : Below w.heap.size w W1 := by rw [← hW1]; exact below_new _ _
  have x1 : Cells W1 w.heap.size 33 #[.int .i64 e.k, .int .i64 e.c, .slice A nk cap] := by rw [← hW1]; exact cells_new _ _ _
  have h1 := (h.below b1).mono b1.size
  have C := right_any e _ W1 h1
  obtain ⟨R, hR⟩ : ∃ R, rightE e = R := ⟨_, rfl⟩
  rw [hR] at C
  have HC := Lib.hid C
  have H := Lib.hid (And.intro h (And.intro hz (And.intro hI (And.intro hn (And.intro b1 (And.intro x1 hR))))))
  have HW := Lib.hid hW1
  clear h hz hI hn b1 x1 h1 C hR hW1 hks
  go_enter Try.func15, Try.ntmps15
  go_upto_region 1 with fail
  rw [HW.out]
  have q0 : W1.cell? ⟨w.heap.size, 0, none⟩ = some (.int .i64 e.k) := H.out.2.2.2.2.2.1.cell 0
  have q1 : W1.cell? ⟨w.heap.size, 1, none⟩ = some (.int .i64 e.c) := H.out.2.2.2.2.2.1.cell 1
  have q2 : W1.cell? ⟨w.heap.size, 2, none⟩ = some (.slice A nk cap) := H.out.2.2.2.2.2.1.cell 2
  go_wp2_with fail
  refine HC.out.mono ?_
  rintro r w2 ⟨rfl, hb2⟩
  clear q0 q1 q2
  have x2 := H.out.2.2.2.2.2.1.on hb2
  have bw2 := H.out.2.2.2.2.1.trans (hb2.mono H.out.2.2.2.2.1.size)
  have q0 : w2.cell? ⟨w.heap.size, 0, none⟩ = some (.int .i64 e.k) := x2.cell 0
  have q1 : w2.cell? ⟨w.heap.size, 1, none⟩ = some (.int .i64 e.c) := x2.cell 1
  have q2 : w2.cell? ⟨w.heap.size, 2, none⟩ = some (.slice A nk cap) := x2.cell 2
  cases R with
  | false =>
    have HB := Lib.hid bw2
    clear x2 bw2 hb2
    go_wp2_with fail
    go_ret
    exact ⟨HB.out, .inl ⟨H.out.2.2.2.2.2.2, rfl⟩⟩
  | true =>
    have HC3 := Lib.hid (newS_any _ e (Nat.le_refl _) H.out.2.1 _ w2 ((H.out.1.below bw2).mono bw2.size))
    have HB := Lib.hid bw2
    clear x2 bw2 hb2
    go_wp2_with fail
    refine HC3.out.mono ?_
    rintro r w3 ⟨s, rfl, hfr, hat, hnd, hids, hrows, hb3⟩
    obtain ⟨o4, _, _, o7⟩ := at_own s hat
    have hb03 := HB.out.trans (hb3.mono HB.out.size)
    obtain ⟨p, hp⟩ : ∃ p, s.p = p := ⟨_, rfl⟩
    rw [hp] at o4 o7 ⊢
    have HS := Lib.hid (And.intro hfr (And.intro hat (And.intro hnd (And.intro (fun x hx => Nat.le_trans HB.out.size (hids x hx)) (And.intro hb03 hp)))))
    clear hfr hat hnd hids hrows hb3 hb03 hp q0 q1 q2
    go_wp2_with fail
    go_loopw [6, 20] (fun u6 u20 wr => ∃ (i : Nat) (t : SB) (E : Bool), u20 = .int .i64 (i : Int) ∧ i ≤ n ∧ u6 = .bool E ∧ t.At wr ∧ t.p = p ∧ t.ids = s.ids ∧ Below w.heap.size w wr ∧ runS (ms.drop i) i t E = runS ms 0 s s.em) (fun _ u20 _ => n - (RowKit.intOf u20).toNat)
    case atStart => exact ⟨0, s, s.em, rfl, by omega, rfl, HS.out.2.1, HS.out.2.2.2.2.2, rfl, HS.out.2.2.2.2.1, rfl⟩
    case round =>
      obtain ⟨i, t, E, rfl, hi, rfl, hat, hp, hid, hb, hrun⟩ := hrel
      by_cases hlt : i < n
      · have i1 : (i : Int) < (n : Int) := by omega
        obtain ⟨m, hm⟩ : ∃ m, ms[i]? = some m := ⟨ms[i]'(by have := H.out.2.2.2.1; omega), List.getElem?_eq_getElem _⟩
        have his := H.out.2.2.1
        obtain ⟨bm, om, rfl, hbl, hc⟩ := his.r (by rintro rfl; simp at hm)
        have d0 := (hb.cell (p := ⟨bm, om + i, none⟩) hbl).trans (hc i m hm)
        have hdrop : ms.drop i = m :: ms.drop (i + 1) := by
          have hi' := (List.getElem?_eq_some_iff.1 hm)
          obtain ⟨hi', he⟩ := hi'
          rw [List.drop_eq_getElem_cons hi', he]
        rw [hdrop] at hrun
        obtain ⟨b, hbb⟩ : ∃ b, decide (i = 0) = b := ⟨_, rfl⟩
        have hcmp : ((i : Int) == 0) = b := by rw [← hbb]; cases i <;> simp <;> omega
        have C := stepP_any m _ t (Nat.le_refl _) wr b hat (by rw [hid]; exact HS.out.2.2.1)
        rw [hp] at C
        have hrun' : (if (stepS m t b).lv then runS (ms.drop (i + 1)) (i + 1) (stepS m t b) (stepS m t b).en else false) = runS ms 0 s s.em := by
          rw [← hrun, ← hbb]; rfl
        have HC4 := Lib.hid C
        have HT := Lib.hid (And.intro hrun' (And.intro hp (And.intro hid (And.intro hb hlt))))
        clear C hrun' hrun hp hid hb hat hdrop hbb hm hc his
        go_wp2_with fail
        refine HC4.out.mono ?_
        rintro r w5 ⟨rfl, ha5, hf5⟩
        obtain ⟨_, u5, u6, u7⟩ := at_own _ ha5
        rw [(step_ids m t b).2.1, HT.out.2.1] at u5 u6 u7
        have hb5 : Below w.heap.size w w5 := HT.out.2.2.2.1.trans (hf5.below HT.out.2.2.2.1.size (fun x hx hX => by
          have := HS.out.2.2.2.1 x (by rw [← HT.out.2.2.1]; exact hX)
          omega))
        obtain ⟨t', ht'⟩ : ∃ t', stepS m t b = t' := ⟨_, rfl⟩
        have hid' : t'.ids = s.ids := by rw [← ht', (step_ids m t b).1]; exact HT.out.2.2.1
        have hp' : t'.p = p := by rw [← ht', (step_ids m t b).2.1]; exact HT.out.2.1
        have hr' := HT.out.1
        rw [ht'] at ha5 u5 u6 hr'
        have H5 := Lib.hid (And.intro ha5 (And.intro hp' (And.intro hid' hb5)))
        clear ha5 hp' hid' hb5 hf5 ht' d0 hcmp
        cases hlv : t'.lv with
        | false =>
          rw [hlv] at u6 hr'
          have HR := Lib.hid (show runS ms 0 s s.em = false from hr'.symm)
          clear hr' hlv
          go_wp2_with fail
          go_ret
          exact ⟨H5.out.2.2.2, .inr ⟨H.out.2.2.2.2.2.2, s, HS.out.1, by rw [HR.out]; rfl⟩⟩
        | true =>
          rw [hlv] at u6 hr'
          have hend : ∃ (i2 : Nat) (t2 : SB) (E2 : Bool), Value.int .i64 ((i : Int) + 1) = .int .i64 (i2 : Int) ∧ i2 ≤ n ∧ Value.bool t'.en = .bool E2 ∧ t2.At w5 ∧ t2.p = p ∧ t2.ids = s.ids ∧ Below w.heap.size w w5 ∧ runS (ms.drop i2) i2 t2 E2 = runS ms 0 s s.em :=
            ⟨i + 1, t', t'.en, by simp, by have := HT.out.2.2.2.2; omega, rfl, H5.out.1, H5.out.2.1, H5.out.2.2.1, H5.out.2.2.2, hr'⟩
          have HEND := Lib.hid hend
          clear hend hr' hlv
          go_wp2_with fail
          go_roundw
          case rel => exact HEND.out
          case measure => have := HT.out.2.2.2.2; simp [RowKit.intOf]; omega
      · obtain rfl : i = n := by omega
        have i1 : ¬ (i : Int) < (i : Int) := by omega
        have i1' : decide ((i : Int) < (i : Int)) = false := by simp
        have hd : ms.drop i = [] := List.drop_eq_nil_of_le (by have := H.out.2.2.2.1; omega)
        rw [hd] at hrun
        have HR := Lib.hid (And.intro hb (show E = runS ms 0 s s.em from hrun))
        clear hrun hb hd hat hp hid
        go_wp2_with fail
        go_ret
        exact ⟨HR.out.1, .inr ⟨H.out.2.2.2.2.2.2, s, HS.out.1, by rw [HR.out.2]; rfl⟩⟩
end Go.Proofs.Ytegkogadceodlaa

namespace Go.Proofs.Ytegkogadceodlaa
open Go.RowKit Go.Shelf Go.Lib Go.Maps

/-- A state without its places in memory. -/
def er : SB → SB
  | .mk _ k c _ _ em en lv ps => .mk 0 k c (.bool false) (.bool false) em en lv (erL ps)
where
  erL : List SB → List SB
    | [] => []
    | s :: r => er s :: erL r
theorem erL_cons (s : SB) (r : List SB) : er.erL (s :: r) = er s :: er.erL r := by conv => lhs; unfold er.erL
theorem erL_nil : er.erL [] = [] := by unfold er.erL; rfl
theorem er_em : ∀ s : SB, (er s).em = s.em
  | .mk _ _ _ _ _ _ _ _ _ => by unfold er; rfl
theorem er_en : ∀ s : SB, (er s).en = s.en
  | .mk _ _ _ _ _ _ _ _ _ => by unfold er; rfl
theorem er_lv : ∀ s : SB, (er s).lv = s.lv
  | .mk _ _ _ _ _ _ _ _ _ => by unfold er; rfl
theorem erL_fold (ps : List SB) : ∀ a : Bool, (er.erL ps).foldl (fun a q => q.en || (a && q.em)) a = ps.foldl (fun a q => q.en || (a && q.em)) a := by
  induction ps with
  | nil => intro a; rw [erL_nil]
  | cons s r ih => intro a; rw [erL_cons, List.foldl_cons, List.foldl_cons, er_en, er_em, ih]
theorem erL_any_lv (ps : List SB) : (er.erL ps).any SB.lv = ps.any SB.lv := by
  induction ps with
  | nil => rw [erL_nil]
  | cons s r ih => rw [erL_cons, List.any_cons, List.any_cons, er_lv, ih]
theorem erL_any_en (ps : List SB) : (er.erL ps).any SB.en = ps.any SB.en := by
  induction ps with
  | nil => rw [erL_nil]
  | cons s r ih => rw [erL_cons, List.any_cons, List.any_cons, er_en, ih]
mutual
theorem step_er (m : Int) : ∀ (s : SB) (b : Bool), stepS m (er s) b = er (stepS m s b)
  | .mk p k c kv pv em en lv ps, b => by
    have h1 := fun b => all_er m ps b
    have h2 := fun b => seq_er m ps b
    have he : ∀ p kv pv em en lv (ps : List SB), er (.mk p k c kv pv em en lv ps) = .mk 0 k c (.bool false) (.bool false) em en lv (er.erL ps) := fun _ _ _ _ _ _ _ => by conv => lhs; unfold er
    rw [he]
    unfold stepS
    by_cases h : (!b && !lv) = true
    · rw [if_pos h, if_pos h, he]
    rw [if_neg h, if_neg h]
    by_cases h4 : k = 4
    · rw [if_pos h4, if_pos h4, he, h2, erL_fold, erL_any_lv]
    rw [if_neg h4, if_neg h4]
    by_cases h6 : k = 6 ∨ k = 7
    · rw [if_pos h6, if_pos h6, he, h1, erL_any_en, erL_any_lv]
    rw [if_neg h6, if_neg h6]
    by_cases h5 : k = 5 ∨ k = 8
    · rw [if_pos h5, if_pos h5, he, h1, erL_any_en, erL_any_lv]
    · rw [if_neg h5, if_neg h5, he]
theorem all_er (m : Int) : ∀ (ps : List SB) (b : Bool), stepS.allS m (er.erL ps) b = er.erL (stepS.allS m ps b)
  | [], b => by rw [erL_nil]; simp [stepS.allS, erL_nil]
  | s :: r, b => by rw [erL_cons, allS_cons, allS_cons, erL_cons, step_er m s b, all_er m r b]
theorem seq_er (m : Int) : ∀ (ps : List SB) (b : Bool), stepS.seqS m (er.erL ps) b = er.erL (stepS.seqS m ps b)
  | [], b => by rw [erL_nil]; simp [stepS.seqS, erL_nil]
  | s :: r, b => by rw [erL_cons, seqS_cons, seqS_cons, erL_cons, er_en, er_em, step_er m s b, seq_er m r _]
end
theorem run_er : ∀ (ms : List Int) (i : Nat) (s : SB) (en : Bool), runS ms i (er s) en = runS ms i s en
  | [], _, _, _ => rfl
  | m :: r, i, s, en => by
    unfold runS
    rw [step_er, er_lv, er_en, run_er r (i + 1)]
/-- A fresh state of an expression, of no place. -/
def frC : E → SB
  | .mk k c ks => .mk 0 k c (.bool false) (.bool false) (emK k (frL ks)) false false (frL ks)
where
  frL : List E → List SB
    | [] => []
    | e :: r => frC e :: frL r
theorem erL_cnt (ps : List SB) : cntE (er.erL ps) = cntE ps ∧ (er.erL ps).length = ps.length := by
  induction ps with
  | nil => rw [erL_nil]; exact ⟨rfl, rfl⟩
  | cons s r ih =>
    rw [erL_cons]
    refine ⟨?_, by rw [List.length_cons, List.length_cons, ih.2]⟩
    have h1 := ih.1
    unfold cntE at h1 ⊢
    rw [List.filter_cons, List.filter_cons, er_em]
    split
    · rw [List.length_cons, List.length_cons, h1]
    · exact h1
theorem emK_er (k : Int) (ps : List SB) : emK k (er.erL ps) = emK k ps := by
  unfold emK
  rw [(erL_cnt ps).1, (erL_cnt ps).2]
mutual
theorem fresh_er : ∀ (e : E) (s : SB), FreshS e s → er s = frC e
  | .mk k c ks, .mk p k' c' kv pv em en lv ps, h => by
    unfold FreshS at h
    obtain ⟨rfl, rfl, rfl, rfl, rfl, h6⟩ := h
    have h7 := freshL_er ks ps h6
    unfold er frC
    rw [← h7, emK_er]
theorem freshL_er : ∀ (ks : List E) (ps : List SB), FreshS.FreshL ks ps → er.erL ps = frC.frL ks
  | [], [], _ => by rw [erL_nil]; unfold frC.frL; rfl
  | e :: r, s :: t, h => by
    unfold FreshS.FreshL at h
    rw [erL_cons]
    unfold frC.frL
    rw [fresh_er e s h.1, freshL_er r t h.2]
  | [], _ :: _, h => by unfold FreshS.FreshL at h; exact h.elim
  | _ :: _, [], h => by unfold FreshS.FreshL at h; exact h.elim
end
/-- How Matches answers. -/
def mtR (e : E) (ms : List Int) : Bool := rightE e && runS ms 0 (frC e) (frC e).em
theorem matCon : MatCon mtR := fun e v ms A c w h hz hI => (matches_any e v ms A c w h hz hI).mono fun r w' hm => by
  rcases hm.2 with ⟨h1, h2⟩ | ⟨h1, s, h2, h3⟩
  · refine ⟨?_, hm.1⟩
    rw [h2]
    unfold mtR
    rw [h1]
    rfl
  · refine ⟨?_, hm.1⟩
    rw [h3]
    unfold mtR
    rw [h1, ← fresh_er e s h2, run_er, er_em]
    rfl
end Go.Proofs.Ytegkogadceodlaa

namespace Go.Proofs.Ytegkogadceodlaa
open Go.RowKit Go.Shelf Go.Lib Go.Sort

theorem breaksR_at (mt : E → List Int → Bool) (t : Tx) (ids : List Int) {k : Nat} (hk : k < ids.length) : (breaksR mt t ids)[k]? = some (allB mt (knownT t) ids k) := by
  unfold breaksR
  rw [if_neg (by omega), List.getElem?_append_left (by rw [brL_len _ _ _ (by omega)]; exact hk)]
  unfold brL allB
  cases k with
  | zero => rfl
  | succ k => rw [List.getElem?_cons_succ, List.getElem?_map, List.getElem?_range' (by omega), if_neg (by omega), Option.map_some, show 1 + 1 * k = k + 1 by omega]
theorem hid_all (mt : E → List Int → Bool) (t : Tx) (ids : List Int) {k : Nat} (h : (rdF t.ig t.kp ids).1[k]? = some true) : 0 < k ∧ allB mt t ids k = false := by
  have hl := (List.getElem?_eq_some_iff.1 h).1
  rw [(rdI t.ig t.kp ids).h] at hl
  obtain ⟨id, hid⟩ : ∃ id, ids[k]? = some id := ⟨_, List.getElem?_eq_getElem hl⟩
  obtain ⟨h1, _⟩ := rdF_at t.ig t.kp ids hid
  rw [h] at h1
  have h0 : 0 < k := by
    simp at h1
    exact h1.2.1
  refine ⟨h0, ?_⟩
  unfold allB breakR
  rw [if_neg (by omega), if_pos h]
/-- What is seen of the first places, and its breaks. -/
def seenL (t : Tx) (ids : List Int) (k : Nat) : List Int := (unH (rdF t.ig t.kp ids) k).map fun i => ids.getD i 0
def wantL (mt : E → List Int → Bool) (t : Tx) (ids : List Int) (k : Nat) : List Bool := (unH (rdF t.ig t.kp ids) k).map (allB mt t ids)
theorem seen_t (mt : E → List Int → Bool) (t : Tx) (ids : List Int) {k : Nat} (h : (rdF t.ig t.kp ids).1[k]? = some true) : seenL t ids (k + 1) = seenL t ids k ∧ wantL mt t ids (k + 1) = wantL mt t ids k := by
  unfold seenL wantL
  rw [unH_next, h, if_neg (by simp : ¬ ((some true == some false) = true)), List.append_nil]
  exact ⟨rfl, rfl⟩
theorem seen_f (mt : E → List Int → Bool) (t : Tx) (ids : List Int) {k : Nat} {id : Int} (h : (rdF t.ig t.kp ids).1[k]? = some false) (hid : ids[k]? = some id) : seenL t ids (k + 1) = seenL t ids k ++ [id] ∧ wantL mt t ids (k + 1) = wantL mt t ids k ++ [allB mt t ids k] := by
  unfold seenL wantL
  rw [unH_next, h, if_pos (by simp), List.map_append, List.map_append]
  refine ⟨?_, rfl⟩
  rw [List.map_cons, List.map_nil, List.getD_eq_getElem?_getD, hid]
  rfl
theorem seen_len (mt : E → List Int → Bool) (t : Tx) (ids : List Int) (k : Nat) : (seenL t ids k).length ≤ k ∧ (wantL mt t ids k).length = (seenL t ids k).length := by
  unfold seenL wantL unH
  rw [List.length_map, List.length_map]
  refine ⟨?_, rfl⟩
  have := List.length_filter_le (fun i => (rdF t.ig t.kp ids).1[i]? == some false) (List.range k)
  rw [List.length_range] at this
  exact this
theorem seen_64 (t : Tx) (ids : List Int) (k : Nat) (h : ∀ x ∈ ids, i64 x) : ∀ z ∈ seenL t ids k, i64 z := by
  intro z hz
  unfold seenL at hz
  obtain ⟨i, _, rfl⟩ := List.mem_map.1 hz
  rw [List.getD_eq_getElem?_getD]
  cases hi : ids[i]? with
  | none => unfold i64; simp
  | some x => exact h x (List.mem_of_getElem? hi)
theorem iL_snoc (l : List Int) (b : Int) : iL (l ++ [b]) = iL l ++ [.int .i64 b] := by simp [iL]
set_option maxRecDepth 100000 in
set_option maxHeartbeats 16000000 in
theorem seen_law (AWK : AwakeOk) (t : Tx) (v : Value) (ids : List Int) (A : Option Addr) (cap : Nat) (w : World) (h : TxV w w.heap.size t v) (hi : IS w w.heap.size ids A cap) :
    Calls Try.prog 9 #[v, .slice A ids.length cap] w fun e w' => e = .returned (.bool true) ∧ Below w.heap.size w w' := by
  have h' := h
  obtain ⟨A1, c1, A2, c2, A3, c3, rfl, _, _, _⟩ := h'
  have hil := hi.len
  obtain ⟨n, hN⟩ : ∃ n, ids.length = n := ⟨_, rfl⟩
  obtain ⟨W0, hW0⟩ : ∃ W0, w.alloc (.cells #[.slice A1 t.ig.length c1, .slice A2 t.kp.length c2, .slice A3 t.rs.length c3] 50) = W0 := ⟨_, rfl⟩
  have hb0 : Below w.heap.size w W0 := by rw [← hW0]; exact below_new _ _
  have hz0 : W0.heap.size = w.heap.size + 1 := by rw [← hW0]; simp
  have x0 : Cells W0 w.heap.size 50 #[.slice A1 t.ig.length c1, .slice A2 t.kp.length c2, .slice A3 t.rs.length c3] := by rw [← hW0]; exact cells_new _ _ _
  have GR := great_any t _ W0 (h.on hb0)
  have HW := Lib.hid hW0
  have HH := Lib.hid (And.intro h (And.intro hi (And.intro hN (And.intro hb0 (And.intro hz0 x0)))))
  rw [hN] at hil ⊢
  have HA := Lib.hid AWK
  clear h hi hN hW0 hb0 hz0 x0 AWK
  go_enter Try.func9, Try.ntmps9
  go_wp2_with fail
  rw [HW.out]
  refine GR.mono ?_
  rintro r w1 ⟨⟨g, rfl, hgs⟩, hb1⟩
  have hbw1 := HH.out.2.2.2.1.trans (hb1.mono HH.out.2.2.2.1.size)
  have HG := Lib.hid (And.intro hb1 (And.intro hbw1 hgs))
  clear GR hb1 hbw1 hgs
  cases g with
  | true =>
    go_wp2_with fail
    refine (HA.out _).mono ?_
    rintro r w2 ⟨rfl, hb2⟩
    have HB := Lib.hid (HG.out.2.1.trans (hb2.mono HG.out.2.1.size))
    clear hb2
    go_wp2_with fail
    go_ret
    exact ⟨rfl, HB.out⟩
  | false =>
    by_cases h60 : 14 < n
    · have i1 : (14 : Int) < (n : Int) := by omega
      clear h60
      go_wp2_with fail
      refine (HA.out _).mono ?_
      rintro r w2 ⟨rfl, hb2⟩
      have HB := Lib.hid (HG.out.2.1.trans (hb2.mono HG.out.2.1.size))
      clear hb2
      go_wp2_with fail
      go_ret
      exact ⟨rfl, HB.out⟩
    · have i1 : ¬ (14 : Int) < (n : Int) := by omega
      go_wp2_with fail
      refine (HA.out _).mono ?_
      rintro r w2 ⟨rfl, hb2⟩
      have hbw2 := HG.out.2.1.trans (hb2.mono HG.out.2.1.size)
      have x2 := HH.out.2.2.2.2.2.on (HG.out.1.trans (hb2.mono HG.out.1.size))
      have k0 : w2.cell? ⟨w.heap.size, 0, none⟩ = some (.slice A1 t.ig.length c1) := x2.cell 0
      have k1 : w2.cell? ⟨w.heap.size, 1, none⟩ = some (.slice A2 t.kp.length c2) := x2.cell 1
      have k2 : w2.cell? ⟨w.heap.size, 2, none⟩ = some (.slice A3 t.rs.length c3) := x2.cell 2
      have hsm := HG.out.2.2 (by trivial)
      unfold smallT at hsm
      have C1 := toT_any t _ w2 (HH.out.1.on hbw2) (fun x hx => by have := hsm.2.2.2 x hx; omega) (by omega)
      have HB := Lib.hid (And.intro hbw2 h60)
      clear hb2 hbw2 x2 h60 hsm
      go_wp2_with fail
      refine C1.mono ?_
      rintro r w3 ⟨v3, rfl, hv3, hb3⟩
      clear C1 k0 k1 k2
      have b3 := HB.out.1.trans (hb3.mono HB.out.1.size)
      have hv3' := hv3
      obtain ⟨B1, d1, B2, d2, B3, d3, rfl, _⟩ := hv3'
      obtain ⟨W3, hW3⟩ : ∃ V, w3.alloc (.cells #[.slice B1 t.ig.length d1, .slice B2 t.kp.length d2, .slice B3 t.rs.length d3] 57) = V := ⟨_, rfl⟩
      have bn : Below w3.heap.size w3 W3 := by rw [← hW3]; exact below_new _ _
      have x3 : Cells W3 w3.heap.size 57 #[.slice B1 t.ig.length d1, .slice B2 t.kp.length d2, .slice B3 t.rs.length d3] := by rw [← hW3]; exact cells_new _ _ _
      have b33 := b3.trans (bn.mono b3.size)
      have v33 := hv3.on bn
      have q0 : ∀ p : Later (fun _ => False) W3, p.W.cell? ⟨w3.heap.size, 0, none⟩ = some (.slice B1 t.ig.length d1) := fun p => cell_later (x3.cell 0) (fun hf => hf) p
      have q1 : ∀ p : Later (fun _ => False) W3, p.W.cell? ⟨w3.heap.size, 1, none⟩ = some (.slice B2 t.kp.length d2) := fun p => cell_later (x3.cell 1) (fun hf => hf) p
      have q2 : ∀ p : Later (fun _ => False) W3, p.W.cell? ⟨w3.heap.size, 2, none⟩ = some (.slice B3 t.rs.length d3) := fun p => cell_later (x3.cell 2) (fun hf => hf) p
      have H3 := Lib.hid (And.intro b33 (And.intro v33 (And.intro x3 hW3)))
      clear hb3 b3 hv3 bn x3 b33 v33 hW3
      go_wp2_with fail
      rw [H3.out.2.2.2]
      refine wp_region_mix0 (fun i => if i = 0 then 0 else if i = 1 then 0 else if i = 3 then 0 else if i = 4 then 0 else 2) [0, 1, 3, 4] [2, 5, 6, 7] (fun w' => ∃ p : Later (fun _ => False) W3, w' = p.W) (by kernel_rfl) (by kernel_rfl) ⟨⟨_, Fz.drew W3⟩, rfl⟩ ?_
      simp only [opsAt, List.filterMap_cons, List.filterMap_nil, List.getElem?_toArray, List.getElem?_cons_zero, List.getElem?_cons_succ]
      change wpQuiet _ _ _ _ [_, _, _, _] _
      repeat (go_big_quiet_step (fail))
      refine wpQuiet_nil ?_
      clear q0 q1 q2
      have zz := Fz.drew (X := fun _ => False) W3
      have bd := zz.below (B := W3.heap.size) (Nat.le_refl _) (fun _ _ h => h)
      obtain ⟨W4, hW4⟩ : ∃ V, ({ W3 with drawn := W3.drawn + 1 } : World) = V := ⟨_, rfl⟩
      rw [hW4] at zz bd ⊢
      clear hW4
      have b4 := H3.out.1.trans (bd.mono H3.out.1.size)
      have C2 := hidden_any t _ ids A cap W4 (H3.out.2.1.on bd) (HH.out.2.1.on b4) (by rw [HH.out.2.2.1]; have := HB.out.2; omega)
      rw [HH.out.2.2.1] at C2
      have H4 := Lib.hid (And.intro zz (And.intro b4 bd))
      clear zz bd b4
      refine wpSeqM_step rfl ?_
      go_wp2_with fail
      refine C2.mono ?_
      rintro r W5 ⟨v5, rfl, hr5, hb5⟩
      clear C2
      obtain ⟨A5, c5, rfl⟩ := own_formN hr5
      have s4 := H4.out.2.1.size
      have s43 := H4.out.2.2.size
      have b5 := H4.out.2.1.trans (hb5.mono s4)
      have b53 := H4.out.2.2.trans (hb5.mono s43)
      have C3 := BreaksG_any mtR matCon t _ ids A cap W5 (H3.out.2.1.on b53) (HH.out.2.1.on b5) (by rw [HH.out.2.2.1]; have := HB.out.2; omega)
      rw [HH.out.2.2.1] at C3
      have H5 := Lib.hid (And.intro hr5 (And.intro (H4.out.1.trans (Fz.of_below hb5)) (And.intro b5 b53)))
      clear hr5 hb5 b5 b53
      go_wp2_with fail
      refine ⟨⟨⟨_, H5.out.2.1⟩, rfl⟩, ?_⟩
      refine wpSeqM_step rfl ?_
      go_wp2_with fail
      refine C3.mono ?_
      rintro r W6 ⟨v6, rfl, hr6, hb6⟩
      clear C3
      have e6 := breaksR_len mtR t ids
      rw [HH.out.2.2.1] at e6
      have rAt := fun k (hk : k < ids.length) => breaksR_at mtR t ids hk
      obtain ⟨BR, hBR⟩ : ∃ q, breaksR mtR t ids = q := ⟨_, rfl⟩
      rw [hBR] at hr6 e6 rAt
      rw [e6] at hr6
      obtain ⟨A6, c6, rfl⟩ := own_formN hr6
      have s5 := H5.out.2.2.1.size
      have s53 := H5.out.2.2.2.size
      have b6 := H5.out.2.2.1.trans (hb6.mono s5)
      have b63 := H5.out.2.2.2.trans (hb6.mono s53)
      have hr5 := ownsRow_below H5.out.1 hb6
      have H6 := Lib.hid (And.intro hr5 (And.intro (H5.out.2.1.trans (Fz.of_below hb6)) (And.intro b6 (And.intro b63 (And.intro hr6 rAt)))))
      clear hr5 hr6 hb6 b6 b63 hBR rAt e6
      go_wp2_with fail
      refine ⟨⟨⟨_, H6.out.2.1⟩, rfl⟩, ?_⟩
      refine wpSeqM_step rfl ?_
      go_wp2_with fail
      refine ⟨⟨⟨_, H6.out.2.1⟩, rfl⟩, ?_⟩
      refine wpSeqM_step rfl ?_
      go_wp2_with fail
      refine ⟨⟨⟨_, H6.out.2.1⟩, rfl⟩, ?_⟩
      unfold wpSeqM
      have i2 : ¬ ((n : Int) + 1 ≠ (n : Int) + 1) := by omega
      have n14 : n ≤ 14 := by have := HB.out.2; omega
      go_wp2_with fail
      have b8 := H6.out.2.2.1
      have HN := Lib.hid (And.intro n14 HB)
      clear i2 n14
      go_loopw [8, 9, 10] (fun u1 u2 i wr => ∃ k : Nat, k ≤ n ∧ i = .int .i64 (k : Int) ∧ wr.ownsRow W6.heap.size 3 1 u1 (seenL (knownT t) ids k).length (iL (seenL (knownT t) ids k)) ∧ wr.ownsRow W6.heap.size 4 1 u2 (seenL (knownT t) ids k).length (bL (wantL mtR (knownT t) ids k)) ∧ (∀ j, u1.ownBlock = some j → u2.ownBlock = some j → False) ∧ Below W6.heap.size W6 wr) (fun _ _ i _ => n - (RowKit.intOf i).toNat)
      case atStart => exact ⟨0, Nat.zero_le _, rfl, World.ownsRow_nil _ _ _ _, World.ownsRow_nil _ _ _ _, fun j h1 _ => by simp [Value.ownBlock] at h1, Below.refl _ _⟩
      case round =>
        obtain ⟨k, hkn, rfl, o1, o2, hap, hb⟩ := hrel
        have sl := seen_len mtR (knownT t) ids k
        obtain ⟨G1, hG1, rfl⟩ := own_formN o1
        obtain ⟨G2, hG2, rfl⟩ := own_formN o2
        have b9 := HN.out.2.out
        by_cases hlt : k < n
        · have i1 : (k : Int) < (n : Int) := by omega
          obtain ⟨id, hid⟩ : ∃ id, ids[k]? = some id := ⟨_, List.getElem?_eq_getElem (by rw [HH.out.2.2.1]; exact hlt)⟩
          have b0r := H6.out.2.2.1.trans (hb.mono H6.out.2.2.1.size)
          obtain ⟨bq, oq, rfl, hbl, hr⟩ := (HH.out.2.1.on b0r).r (by rintro e; rw [e] at hid; simp at hid)
          have ek := hr k id hid
          obtain ⟨A5', c5', e5, _, r5⟩ := own_any (ownsRow_below H6.out.1 hb)
          obtain ⟨g5, rfl, _, r5⟩ := r5 (by omega)
          simp only [Value.slice.injEq] at e5
          obtain ⟨rfl, _, rfl⟩ := e5
          obtain ⟨A6', c6', e6, _, r6⟩ := own_any (ownsRow_below H6.out.2.2.2.2.1 hb)
          obtain ⟨g6, rfl, _, r6⟩ := r6 (by omega)
          simp only [Value.slice.injEq] at e6
          obtain ⟨rfl, _, rfl⟩ := e6
          have e6 := r6 k _ (bL_at (H6.out.2.2.2.2.2 k (by rw [HH.out.2.2.1]; exact hlt)))
          obtain ⟨hd, hhd⟩ : ∃ h, (rdF (knownT t).ig (knownT t).kp ids).1[k]? = some h := ⟨_, List.getElem?_eq_getElem (by rw [(rdI _ _ _).h, HH.out.2.2.1]; exact hlt)⟩
          have e5 := r5 k _ (bL_at hhd)
          have n14 := HN.out.1
          have ik : (k : Int) ≤ 100000 := by omega
          have i9 : (k : Int) < (n : Int) + 1 := by omega
          cases hd with
          | true =>
            obtain ⟨k0, kb⟩ := hid_all mtR (knownT t) ids hhd
            obtain ⟨s1, s2⟩ := seen_t mtR (knownT t) ids hhd
            rw [kb] at e6
            have i0 : ¬ ((k : Int) = 0) := by omega
            have hend : ∃ j : Nat, j ≤ n ∧ Value.int .i64 ((k : Int) + 1) = .int .i64 (j : Int) ∧ wr.ownsRow W6.heap.size 3 1 (.slice G1 (seenL (knownT t) ids k).length hG1) (seenL (knownT t) ids j).length (iL (seenL (knownT t) ids j)) ∧ wr.ownsRow W6.heap.size 4 1 (.slice G2 (seenL (knownT t) ids k).length hG2) (seenL (knownT t) ids j).length (bL (wantL mtR (knownT t) ids j)) ∧ (∀ j, (Value.slice G1 (seenL (knownT t) ids k).length hG1).ownBlock = some j → (Value.slice G2 (seenL (knownT t) ids k).length hG2).ownBlock = some j → False) ∧ Below W6.heap.size W6 wr :=
              ⟨k + 1, by omega, by simp, by rw [s1]; exact o1, by rw [s1, s2]; exact o2, hap, hb⟩
            obtain ⟨n1, hn1⟩ : ∃ q, (seenL (knownT t) ids k).length = q := ⟨_, rfl⟩
            rw [hn1] at hend ⊢
            have HEND := Lib.hid hend
            clear hend o1 o2 hap hb s1 s2 sl hn1 b0r hr r5 r6 hhd hid b9
            go_wp2_with fail
            go_roundw
            case rel => exact HEND.out
            case measure => simp [RowKit.intOf]; omega
          | false =>
            obtain ⟨s1, s2⟩ := seen_f mtR (knownT t) ids hhd hid
            obtain ⟨n1, hn1⟩ : ∃ q, (seenL (knownT t) ids k).length = q := ⟨_, rfl⟩
            have hn2 : (seenL (knownT t) ids (k + 1)).length = n1 + 1 := by rw [s1, List.length_append, hn1]; rfl
            rw [hn1] at o1 o2 hap sl ⊢
            obtain ⟨bk, hbk⟩ : ∃ q, allB mtR (knownT t) ids k = q := ⟨_, rfl⟩
            rw [hbk] at e6 s2
            have nb2 := (fun j e => (own_block_lt o2 j e))
            have nb1 := (fun j e => (own_block_lt o1 j e))
            have HO := Lib.hid (And.intro o1 (And.intro o2 (And.intro hap (And.intro hb (And.intro s1 (And.intro s2 (And.intro hn2 (And.intro nb1 nb2))))))))
            have e6' := e6
            have n1k := sl.1
            have hs6 := hb.size
            have HE := Lib.hid hbk
            clear o1 o2 hap s1 s2 sl hn1 b0r hr r5 r6 hhd hid b9 hbk hn2 nb1 nb2 e6'
            go_wp2_with (first
              | (at_builtin; refine wpList_app1 Try.underlying25 info3 (by omega) rfl (.tmp 66) (.tmp 71) rfl W6.heap.size _ n1 (iL (seenL (knownT t) ids k)) (.int .i64 id) rfl rfl wr HO.out.1 rfl rfl (by omega) (by omega) ?_)
              | fail)
            intro g7 cp7 w7 ho7 hg7 hn7 hl7
            have hf7 : Fz (fun j => (Value.slice G1 n1 hG1).ownBlock = some j) wr w7 := Fz.of_grown hg7 (fun _ e => e)
            have o27 := own_fz HO.out.2.1 hf7 (fun j e he => HO.out.2.2.1 j he e)
            have b7 : Below W6.heap.size W6 w7 := HO.out.2.2.2.1.trans ⟨hg7.os, hg7.tape, hg7.output, hg7.size, fun k hk => hg7.block k (by omega) (fun e' => by have := (HO.out.2.2.2.2.2.2.2.1 k e'.symm).1; omega)⟩
            have a7 : ∀ j, g7 = j → (Value.slice G2 n1 hG2).ownBlock = some j → False := by
              rintro j rfl he
              rcases hn7 with hn7 | hn7
              · exact HO.out.2.2.1 _ hn7 he
              · have := (HO.out.2.2.2.2.2.2.2.2 _ he).2
                omega
            have r67 := own_any (ownsRow_below H6.out.2.2.2.2.1 b7)
            obtain ⟨A6'', c6'', e6q, _, r6⟩ := r67
            obtain ⟨g6', hg6, _, r6⟩ := r6 (by omega)
            simp only [Value.slice.injEq] at e6q
            rw [← e6q.1] at hg6
            injection hg6 with hg6
            injection hg6 with hg6
            subst hg6
            have e67 := r6 k _ (bL_at (by rw [H6.out.2.2.2.2.2 k (by rw [HH.out.2.2.1]; exact hlt), HE.out]))
            have s7 := b7.size
            have H7 := Lib.hid (And.intro ho7 (And.intro o27 (And.intro b7 (And.intro a7 hl7))))
            clear ho7 hg7 hn7 hl7 o27 b7 a7 hf7 r6 e6q
            go_wp2_with (first
              | (at_builtin; refine wpList_app1 Try.underlying52 info4 (by omega) rfl (.tmp 73) (.tmp 78) rfl W6.heap.size _ n1 (bL (wantL mtR (knownT t) ids k)) (.bool bk) rfl rfl w7 H7.out.2.1 rfl rfl (by omega) (by omega) ?_)
              | fail)
            intro g8 cp8 w8 ho8 hg8 hn8 hl8
            have hf8 : Fz (fun j => (Value.slice G2 n1 hG2).ownBlock = some j) w7 w8 := Fz.of_grown hg8 (fun _ e => e)
            have o18 := own_fz H7.out.1 hf8 (fun j e he => by
              simp [Value.ownBlock] at e
              exact H7.out.2.2.2.1 j e he)
            have b8 : Below W6.heap.size W6 w8 := H7.out.2.2.1.trans ⟨hg8.os, hg8.tape, hg8.output, hg8.size, fun k hk => hg8.block k (by omega) (fun e' => by have := (HO.out.2.2.2.2.2.2.2.2 k e'.symm).1; omega)⟩
            have a8 : ∀ j, (Value.slice (some ⟨g7, 0, none⟩) (n1 + 1) cp7).ownBlock = some j → (Value.slice (some ⟨g8, 0, none⟩) (n1 + 1) cp8).ownBlock = some j → False := by
              intro j h1 h2
              simp [Value.ownBlock] at h1 h2
              subst h1
              subst h2
              rcases hn8 with hn8 | hn8
              · exact H7.out.2.2.2.1 _ rfl hn8
              · have := H7.out.2.2.2.2
                omega
            have hend : ∃ j : Nat, j ≤ n ∧ Value.int .i64 ((k : Int) + 1) = .int .i64 (j : Int) ∧ w8.ownsRow W6.heap.size 3 1 (.slice (some ⟨g7, 0, none⟩) (n1 + 1) cp7) (seenL (knownT t) ids j).length (iL (seenL (knownT t) ids j)) ∧ w8.ownsRow W6.heap.size 4 1 (.slice (some ⟨g8, 0, none⟩) (n1 + 1) cp8) (seenL (knownT t) ids j).length (bL (wantL mtR (knownT t) ids j)) ∧ (∀ j, (Value.slice (some ⟨g7, 0, none⟩) (n1 + 1) cp7).ownBlock = some j → (Value.slice (some ⟨g8, 0, none⟩) (n1 + 1) cp8).ownBlock = some j → False) ∧ Below W6.heap.size W6 w8 :=
              ⟨k + 1, by omega, by simp, by rw [HO.out.2.2.2.2.2.2.1, HO.out.2.2.2.2.1, iL_snoc]; exact o18, by rw [HO.out.2.2.2.2.2.2.1, HO.out.2.2.2.2.2.1, bL_snoc]; exact ho8, a8, b8⟩
            have HEND := Lib.hid hend
            clear ho8 hg8 hn8 hl8 o18 b8 a8 hf8 hend
            go_wp2_with fail
            go_roundw
            case rel => exact HEND.out
            case measure => simp [RowKit.intOf]; omega
        · obtain rfl : k = n := by omega
          have i1 : ¬ (k : Int) < (k : Int) := by omega
          have n14 := HN.out.1
          have hse : k ≠ 0 → breaksR mtR t (seenL (knownT t) ids k) = wantL mtR (knownT t) ids k ++ [true] := fun h => by
            have := seen_breaks mtR t ids (by rw [HH.out.2.2.1]; exact h)
            rw [HH.out.2.2.1] at this
            exact this
          have h64 := seen_64 (knownT t) ids k HH.out.2.1.i
          have h0e : k = 0 → seenL (knownT t) ids k = [] := fun h => by
            rw [h]
            rfl
          obtain ⟨SE, hSE⟩ : ∃ q, seenL (knownT t) ids k = q := ⟨_, rfl⟩
          obtain ⟨WA, hWA⟩ : ∃ q, wantL mtR (knownT t) ids k = q := ⟨_, rfl⟩
          rw [hSE] at o1 o2 hap hse sl h64 h0e ⊢
          rw [hWA] at o2 hse sl
          obtain ⟨n1, hn1⟩ : ∃ q, SE.length = q := ⟨_, rfl⟩
          rw [hn1] at o1 o2 hap sl ⊢
          have s8 := hb.size
          have sl1 := sl.1
          have s36 := H6.out.2.2.2.1.size
          have s06 := H6.out.2.2.1.size
          by_cases h0 : k = 0
          · have i2 : ¬ (0 : Int) < (k : Int) := by omega
            have hse0 := h0e h0
            obtain ⟨W9, hW9⟩ : ∃ V, wr.alloc (.cells #[.bool true] 4) = V := ⟨_, rfl⟩
            have bn : Below wr.heap.size wr W9 := by rw [← hW9]; exact below_new _ _
            have x9c : Cells W9 wr.heap.size 4 #[.bool true] := by rw [← hW9]; exact cells_new _ _ _
            have s9' : W9.heap.size = wr.heap.size + 1 := by rw [← hW9]; simp
            have b9w := hb.trans (bn.mono s8)
            have b93 := H6.out.2.2.2.1.trans (b9w.mono s36)
            have b90 := H6.out.2.2.1.trans (b9w.mono s06)
            have x9 := H3.out.2.2.1.on b93
            have k0 : (wr.alloc (.cells #[.bool true] 4)).cell? ⟨w3.heap.size, 0, none⟩ = some (.slice B1 t.ig.length d1) := by rw [hW9]; exact x9.cell 0
            have k1 : (wr.alloc (.cells #[.bool true] 4)).cell? ⟨w3.heap.size, 1, none⟩ = some (.slice B2 t.kp.length d2) := by rw [hW9]; exact x9.cell 1
            have k2 : (wr.alloc (.cells #[.bool true] 4)).cell? ⟨w3.heap.size, 2, none⟩ = some (.slice B3 t.rs.length d3) := by rw [hW9]; exact x9.cell 2
            have o19 := ownsRow_below o1 bn
            rw [← hn1] at o19
            have i9 := (IS.of_own o19 h64).2
            have bs9 : BS W9 W9.heap.size [true] (some ⟨wr.heap.size, 0, none⟩) 1 := ⟨Nat.le_refl _, by unfold maxLen; omega, fun _ => ⟨_, 0, rfl, by omega, fun i x hx => by
              cases i with
              | zero =>
                simp at hx
                subst hx
                exact x9c.cell 0
              | succ i => simp at hx⟩⟩
            have he : breaksR mtR t SE = [true] := by rw [hse0]; rfl
            have HT := Lib.hid (And.intro i9 (And.intro (H3.out.2.1.on b93) (And.intro bs9 (And.intro b90 (And.intro he hn1)))))
            have HL := Lib.hid (show ([true] : List Bool).length = 1 from rfl)
            have H9 := Lib.hid hW9
            clear o1 o2 hap sl h0e hse h64 o19 i9 bs9 he hse0 b90 b93 b9w bn x9c x9 hSE hWA hb hW9 hn1 s9' h0
            have C4 := BreaksG_any mtR matCon t _ SE G1 hG1 W9 HT.out.2.1 HT.out.1 (by rw [HT.out.2.2.2.2.2]; omega)
            rw [HT.out.2.2.2.2.2] at C4
            go_wp2_with fail
            rw [H9.out]
            refine C4.mono ?_
            rintro r W10 ⟨v10, rfl, hr10, hb10⟩
            clear C4
            obtain ⟨A10, c10, rfl⟩ := own_formN hr10
            have s9 := HT.out.2.2.2.1.size
            have b10 := HT.out.2.2.2.1.trans (hb10.mono s9)
            have hbs := (BS.of_own hr10).2
            have C5 := is_any _ _ A10 (some ⟨wr.heap.size, 0, none⟩) c10 1 W10 hbs (HT.out.2.2.1.on hb10)
            have e10 := breaksR_len mtR t SE
            rw [HT.out.2.2.2.2.2] at e10
            rw [decide_eq_true HT.out.2.2.2.2.1, e10] at C5
            rw [e10]
            rw [HL.out] at C5
            have H10 := Lib.hid b10
            clear hr10 hb10 b10 hbs e10
            go_wp2_with fail
            refine C5.mono ?_
            rintro r W11 ⟨rfl, hb11⟩
            have H11 := Lib.hid (H10.out.trans (hb11.mono H10.out.size))
            clear C5 hb11
            go_wp2_with fail
            go_ret
            exact ⟨rfl, H11.out⟩
          · have i2 : (0 : Int) < (k : Int) := by omega
            have hs := hse h0
            have nb2 := (fun j e => (own_block_lt o2 j e))
            have HO := Lib.hid (And.intro o1 (And.intro o2 (And.intro hap (And.intro hb (And.intro hs (And.intro hn1 (And.intro h64 (And.intro nb2 sl))))))))
            clear o1 o2 hap sl h0e hse h64 h0 hs hSE hWA hb nb2 hn1
            go_wp2_with (first
              | (at_builtin; refine wpList_app1 Try.underlying52 info4 (by omega) rfl (.tmp 83) (.tmp 84) rfl W6.heap.size _ n1 (bL WA) (.bool true) rfl rfl wr HO.out.2.1 rfl rfl (by omega) (by omega) ?_)
              | fail)
            intro g9 cp9 w9 ho9 hg9 hn9 hl9
            rw [← bL_snoc] at ho9
            have hf9 : Fz (fun j => (Value.slice G2 n1 hG2).ownBlock = some j) wr w9 := Fz.of_grown hg9 (fun _ e => e)
            have o19 := own_fz HO.out.1 hf9 (fun j e he => HO.out.2.2.1 j e he)
            have b9w : Below W6.heap.size W6 w9 := HO.out.2.2.2.1.trans ⟨hg9.os, hg9.tape, hg9.output, hg9.size, fun k hk => hg9.block k (by omega) (fun e' => by have := (HO.out.2.2.2.2.2.2.2.1 k e'.symm).1; omega)⟩
            have b93 := H6.out.2.2.2.1.trans (b9w.mono s36)
            have b90 := H6.out.2.2.1.trans (b9w.mono s06)
            have x9 := H3.out.2.2.1.on b93
            have k0 : w9.cell? ⟨w3.heap.size, 0, none⟩ = some (.slice B1 t.ig.length d1) := x9.cell 0
            have k1 : w9.cell? ⟨w3.heap.size, 1, none⟩ = some (.slice B2 t.kp.length d2) := x9.cell 1
            have k2 : w9.cell? ⟨w3.heap.size, 2, none⟩ = some (.slice B3 t.rs.length d3) := x9.cell 2
            have hn1 := HO.out.2.2.2.2.2.1
            rw [← hn1] at o19
            have i9 := (IS.of_own o19 HO.out.2.2.2.2.2.2.1).2
            have hL : (WA ++ [true]).length = n1 + 1 := by rw [List.length_append, HO.out.2.2.2.2.2.2.2.2.2]; rfl
            rw [← hL] at ho9
            have bs9 := (BS.of_own ho9).2
            rw [hL] at ho9
            have HT := Lib.hid (And.intro i9 (And.intro (H3.out.2.1.on b93) (And.intro bs9 (And.intro b90 (And.intro HO.out.2.2.2.2.1 hn1)))))
            have HL := Lib.hid hL
            clear ho9 hg9 hn9 hl9 hf9 o19 i9 bs9 hL b90 b93 b9w x9 hn1
            have C4 := BreaksG_any mtR matCon t _ SE G1 hG1 w9 HT.out.2.1 HT.out.1 (by rw [HT.out.2.2.2.2.2]; omega)
            rw [HT.out.2.2.2.2.2] at C4
            go_wp2_with fail
            refine C4.mono ?_
            rintro r W10 ⟨v10, rfl, hr10, hb10⟩
            clear C4
            obtain ⟨A10, c10, rfl⟩ := own_formN hr10
            have s9 := HT.out.2.2.2.1.size
            have b10 := HT.out.2.2.2.1.trans (hb10.mono s9)
            have hbs := (BS.of_own hr10).2
            have C5 := is_any _ _ A10 (some ⟨g9, 0, none⟩) c10 cp9 W10 hbs (HT.out.2.2.1.on hb10)
            have e10 := breaksR_len mtR t SE
            rw [HT.out.2.2.2.2.2] at e10
            rw [decide_eq_true HT.out.2.2.2.2.1, e10] at C5
            rw [e10]
            rw [HL.out] at C5
            have H10 := Lib.hid b10
            clear hr10 hb10 b10 hbs e10
            go_wp2_with fail
            refine C5.mono ?_
            rintro r W11 ⟨rfl, hb11⟩
            have H11 := Lib.hid (H10.out.trans (hb11.mono H10.out.size))
            clear C5 hb11
            go_wp2_with fail
            go_ret
            exact ⟨rfl, H11.out⟩
end Go.Proofs.Ytegkogadceodlaa

