/-
  DecideFirst HOLDS: a rule that always applies, put ahead of others, decides all; put behind them it decides what none does: for every input, in whatever memory.
  The law DecideFirst: its walk, given that the calls of awake hand back yes.
  Rows of rules of the call's own, whose expressions lie elsewhere: one behind another.
  Contract: virgulelaw06.To of a meaning without rules.
  A rule that always applies, put ahead of others, or behind them: what then decides.
-/
import Derived.Laws.AppendOwnNone
import Derived.Deep.AppendLies
import Derived.Deep.MidRow
import Derived.BigQuiet
import Derived.Deep.CutRange
import Derived.WalkKit
import Derived.ProofKit
import Derived.OpenShut
import Derived.ShutString
import Derived.JoinedTies
import Derived.Test.YtegkogadceodlaaXsa
import Derived.Test.YtegkogadceodlaaXsb
import Derived.Test.YtegkogadceodlaaXsc
import Derived.Test.YtegkogadceodlaaXsd
import Derived.Test.YtegkogadceodlaaXse
import Derived.Test.YtegkogadceodlaaXsf
import Derived.Test.YtegkogadceodlaaXsg
import Derived.Test.YtegkogadceodlaaXsh
import Derived.Test.YtegkogadceodlaaXsi
import Derived.Test.YtegkogadceodlaaXsj
import Derived.Test.YtegkogadceodlaaRows
namespace Go.Proofs.Ytegkogadceodlaa
open Go.RowKit Go.Shelf Go.Lib Go.Sort

def alwE : E := .mk 9 0 []
def alwR (br : Bool) : Ru := ⟨alwE, alwE, br⟩
theorem alw_right : rightE alwE = true := by decide +kernel
theorem alw_mt : mtR alwE [] = true := by
  unfold mtR
  rw [alw_right]
  rfl
theorem alw_short : shortR alwE = 0 := by
  unfold shortR
  rw [alw_right]
  rfl
theorem alw_beg (ms : List Int) : begF mtR alwE ms = true := by
  unfold begF
  rw [alw_short]
  exact srch_true (k := 0) (Nat.le_refl _) (Nat.zero_le _) (by rw [List.take_zero]; exact alw_mt)
theorem alw_clo (ms : List Int) : cloF mtR alwE ms = true := by
  unfold cloF
  rw [alw_short]
  exact srch_true (k := 0) (Nat.le_refl _) (Nat.zero_le _) (by rw [Nat.sub_zero, List.drop_length]; exact alw_mt)
theorem alw_rule (br : Bool) (m1 m2 : List Int) : ruleF mtR (alwR br) m1 m2 = true := by
  unfold ruleF alwR
  rw [alw_beg, alw_clo]
  rfl
theorem alw_rightR (br : Bool) : rightR (alwR br) = true := by
  unfold rightR alwR
  cases br <;> decide +kernel
theorem alw_front {t : Tx} (br : Bool) (h : rightT t = true) (hn : t.rs.length ≤ 30) : rightT ⟨t.ig, t.kp, alwR br :: t.rs⟩ = true := by
  unfold rightT at h ⊢
  simp only [Bool.and_eq_true, decide_eq_true_eq] at h ⊢
  refine ⟨by simp; omega, h.2.1, h.2.2.1, ?_⟩
  rw [List.all_cons, alw_rightR, h.2.2.2]
  rfl
theorem alw_back {t : Tx} (br : Bool) (h : rightT t = true) (hn : t.rs.length ≤ 30) : rightT ⟨t.ig, t.kp, t.rs ++ [alwR br]⟩ = true := by
  unfold rightT at h ⊢
  simp only [Bool.and_eq_true, decide_eq_true_eq] at h ⊢
  refine ⟨by simp; omega, h.2.1, h.2.2.1, ?_⟩
  rw [List.all_append, h.2.2.2, List.all_cons, alw_rightR]
  rfl
theorem whF_front (p : Ru → Bool) (x : Ru) (rs : List Ru) (hp : p x = true) : whF p (x :: rs) 0 = 0 := by
  unfold whF
  rw [if_pos hp]
  rfl
theorem whF_back (p : Ru → Bool) (x : Ru) (hp : p x = true) : ∀ (rs : List Ru) (i : Nat), whF p (rs ++ [x]) i = if whF p rs i < 0 then ((i + rs.length : Nat) : Int) else whF p rs i
  | [], i => by
    simp [whF, hp]
  | y :: r, i => by
    rw [List.cons_append]
    unfold whF
    by_cases h : p y = true
    · rw [if_pos h, if_pos h, if_neg (by omega)]
    · rw [if_neg h, if_neg h, whF_back p x hp r (i + 1), List.length_cons, show i + 1 + r.length = i + (r.length + 1) by omega]
theorem whF_lt (p : Ru → Bool) (rs : List Ru) (i : Nat) : whF p rs i = -1 ∨ ∃ k, k < rs.length ∧ whF p rs i = ((i + k : Nat) : Int) := by
  rcases whF_rng p rs i with h | ⟨k, x, h1, h2, _⟩
  · exact .inl h
  · exact .inr ⟨k, (List.getElem?_eq_some_iff.1 h1).1, h2⟩
/-- What the law asks of a place that isn't hidden. -/
theorem first_at (t : Tx) (br : Bool) (ids : List Int) {i : Nat} (hi : 0 < i) (h : (rdF t.ig t.kp ids).1[i]? = some false) :
    breakR mtR ⟨t.ig, t.kp, alwR br :: t.rs⟩ ids i = br ∧
    (0 ≤ whichR mtR t ids (i : Int) → breakR mtR ⟨t.ig, t.kp, t.rs ++ [alwR br]⟩ ids i = breakR mtR t ids i) ∧
    (whichR mtR t ids (i : Int) < 0 → breakR mtR t ids i = true ∧ breakR mtR ⟨t.ig, t.kp, t.rs ++ [alwR br]⟩ ids i = br) := by
  have hl := (List.getElem?_eq_some_iff.1 h).1
  obtain ⟨P, hP, _⟩ := (rdI t.ig t.kp ids).a i false h
  have w1 := whichR_at mtR ⟨t.ig, t.kp, alwR br :: t.rs⟩ ids hi h hP
  have w2 := whichR_at mtR ⟨t.ig, t.kp, t.rs ++ [alwR br]⟩ ids hi h hP
  have w3 := whichR_at mtR t ids hi h hP
  have hnt : ¬ ((rdF t.ig t.kp ids).1[i]? = some true) := by rw [h]; simp
  have pA : (fun x => ruleF mtR x ((rdF t.ig t.kp ids).2.1.take P) ((rdF t.ig t.kp ids).2.1.drop P)) (alwR br) = true := alw_rule br _ _
  dsimp only at w1 w2 w3
  rw [whF_front _ _ _ pA] at w1
  rw [whF_back _ _ pA, ← w3] at w2
  have b := whF_lt (fun x => ruleF mtR x ((rdF t.ig t.kp ids).2.1.take P) ((rdF t.ig t.kp ids).2.1.drop P)) t.rs 0
  rw [← w3] at b
  refine ⟨?_, fun h0 => ?_, fun h0 => ⟨?_, ?_⟩⟩
  · unfold breakR
    rw [if_neg hnt, w1, if_neg (by omega)]
    rfl
  · unfold breakR
    rw [if_neg hnt, if_neg hnt, w2, if_neg (by omega)]
    rw [if_neg (by omega), if_neg (by omega)]
    rcases b with b | ⟨k, hk, b⟩
    · omega
    · rw [b, Int.toNat_natCast, Nat.zero_add, List.getElem?_append_left hk]
  · unfold breakR
    rw [if_neg hnt, if_pos h0]
  · unfold breakR
    rw [if_neg hnt, w2, if_pos h0, if_neg (by omega), Int.toNat_natCast, Nat.zero_add, List.getElem?_append_right (Nat.le_refl _), Nat.sub_self]
    rfl
theorem brk_at (mt : E → List Int → Bool) (t : Tx) (ids : List Int) {k : Nat} (hk : k < ids.length) : (breaksR mt t ids)[k]? = some (allB mt (knownT t) ids k) := by
  unfold breaksR
  rw [if_neg (by omega), List.getElem?_append_left (by rw [brL_len _ _ _ (by omega)]; exact hk)]
  unfold brL allB
  cases k with
  | zero => rfl
  | succ k => rw [List.getElem?_cons_succ, List.getElem?_map, List.getElem?_range' (by omega), if_neg (by omega), Option.map_some, show 1 + 1 * k = k + 1 by omega]
end Go.Proofs.Ytegkogadceodlaa

namespace Go.Proofs.Ytegkogadceodlaa
open Go.RowKit Go.Shelf Go.Lib Go.Sort

set_option maxHeartbeats 8000000 in
set_option maxRecDepth 100000 in
theorem toT_nil (A1 A2 A3 : Option Addr) (n1 c1 n2 c2 c3 : Nat) (w : World) :
    Calls Try.prog 27 #[.agg #[.slice A1 n1 c1, .slice A2 n2 c2, .slice A3 0 c3]] w fun e w' => e = .returned (.agg #[.slice A1 n1 c1, .slice A2 n2 c2, .slice none 0 0]) ∧ Below w.heap.size w w' := by
  obtain ⟨W1, hW1⟩ : ∃ W, w.alloc (.cells #[.slice A1 n1 c1, .slice A2 n2 c2, .slice A3 0 c3] 50) = W := ⟨_, rfl⟩
  obtain ⟨W2, hW2⟩ : ∃ W, W1.alloc (.cells #[.slice none 0 0, .slice none 0 0, .slice none 0 0] 57) = W := ⟨_, rfl⟩
  obtain ⟨W3, hW3⟩ : ∃ W, W2.alloc (.cells #[.slice A1 n1 c1, .slice A2 n2 c2, .slice none 0 0] 57) = W := ⟨_, rfl⟩
  have z1 : W1.heap.size = w.heap.size + 1 := by rw [← hW1]; simp
  have z2 : W2.heap.size = w.heap.size + 1 + 1 := by rw [← hW2]; simp [z1]
  have b1 : Below w.heap.size w W1 := by rw [← hW1]; exact below_new _ _
  have b2 : Below W1.heap.size W1 W2 := by rw [← hW2]; exact below_new _ _
  have b3 : Below W2.heap.size W2 W3 := by rw [← hW3]; exact below_new _ _
  have x1 : Cells W3 w.heap.size 50 #[.slice A1 n1 c1, .slice A2 n2 c2, .slice A3 0 c3] := (b3.block _ (by omega)).trans ((b2.block _ (by omega)).trans (by rw [← hW1]; exact cells_new _ _ _))
  have x2 : Cells W3 (w.heap.size + 1) 57 #[.slice none 0 0, .slice none 0 0, .slice none 0 0] := (b3.block _ (by omega)).trans (by rw [← hW2, ← z1]; exact cells_new _ _ _)
  have x3 : Cells W3 (w.heap.size + 1 + 1) 57 #[.slice A1 n1 c1, .slice A2 n2 c2, .slice none 0 0] := by rw [← hW3, ← z2]; exact cells_new _ _ _
  have b13 : Below w.heap.size w W3 := b1.trans ((b2.mono (by omega)).trans (b3.mono (by omega)))
  have HW := Lib.hid (And.intro hW1 (And.intro hW2 (And.intro hW3 (And.intro x2 (And.intro b13 b13.size)))))
  have d2 := x1.cell 2
  have e0 := x3.cell 0
  have e1 := x3.cell 1
  have e2 := x3.cell 2
  have r0 := x2.cell 0
  have r1 := x2.cell 1
  have r2 := x2.cell 2
  have s0 := x2.froz 0
  have s1 := x2.froz 1
  have s2 := x2.froz 2
  simp at d2 e0 e1 e2 r0 r1 r2
  clear hW1 hW2 hW3 z1 z2 b1 b2 b3 x1 x2 x3 b13
  go_enter Try.func27, Try.ntmps27
  go_wp2_with fail
  rw [HW.out.1, HW.out.2.1, HW.out.2.2.1]
  go_loopw [4] (fun v wr => v = .int .i64 0 ∧ wr = W3) (fun _ _ => 0)
  case atStart => exact ⟨rfl, rfl⟩
  case round =>
    obtain ⟨rfl, ee⟩ := hrel
    obtain rfl := ee.symm
    clear ee
    go_wp2_with fail
    have hf := ((Fz.set (X := fun b => b = w.heap.size + 1) W3 (w.heap.size + 1) 0 (.slice A1 n1 c1) rfl).trans (Fz.set _ (w.heap.size + 1) 1 (.slice A2 n2 c2) rfl)).trans (Fz.set _ (w.heap.size + 1) 2 (.slice none 0 0) rfl)
    have hy := ((HW.out.2.2.2.1.set 0 (.slice A1 n1 c1)).set 1 (.slice A2 n2 c2)).set 2 (.slice none 0 0)
    have hz := HW.out.2.2.2.2.2
    have hb9 := HW.out.2.2.2.2.1.trans (hf.below (B := w.heap.size) hz (fun b hb e => by omega))
    refine bodyPost_ret (v := .agg #[.slice A1 n1 c1, .slice A2 n2 c2, .slice none 0 0]) (results_cell_row rfl _ _ (w.heap.size + 1) 57 #[.slice A1 n1 c1, .slice A2 n2 c2, .slice none 0 0] (0, 0) _ rfl hy Try.underlying57 rfl (by kernel_rfl)) rfl ⟨rfl, hb9⟩
end Go.Proofs.Ytegkogadceodlaa

namespace Go.Proofs.Ytegkogadceodlaa
open Go.RowKit Go.Shelf Go.Lib Go.Sort

/-- A rule's seven cells in a row; its expressions lie below. -/
def RuC (w : World) (B : Nat) (x : Ru) (cs : List Value) (i : Nat) : Prop := ∃ A1 c1 A2 c2, (∀ (q : Nat) (u : Value), (nc x.l A1 c1 ++ nc x.r A2 c2 ++ [.bool x.b])[q]? = some u → cs[i * 7 + q]? = some u) ∧
  Nd w B x.l (.agg #[.int .i64 x.l.k, .int .i64 x.l.c, .slice A1 x.l.ks.length c1]) ∧ Nd w B x.r (.agg #[.int .i64 x.r.k, .int .i64 x.r.c, .slice A2 x.r.ks.length c2])
theorem RuC.below {w w' : World} {B i : Nat} {x : Ru} {cs : List Value} (h : RuC w B x cs i) (hb : Below B w w') : RuC w' B x cs i := by
  obtain ⟨A1, c1, A2, c2, h1, h2, h3⟩ := h
  exact ⟨A1, c1, A2, c2, h1, h2.below hb, h3.below hb⟩
theorem RuC.mono {w : World} {B B' i : Nat} {x : Ru} {cs : List Value} (h : RuC w B x cs i) (hB : B ≤ B') : RuC w B' x cs i := by
  obtain ⟨A1, c1, A2, c2, h1, h2, h3⟩ := h
  exact ⟨A1, c1, A2, c2, h1, h2.mono hB, h3.mono hB⟩
theorem RuC.left {w : World} {B i : Nat} {x : Ru} {cs ds : List Value} (h : RuC w B x cs i) (hl : (i + 1) * 7 ≤ cs.length) : RuC w B x (cs ++ ds) i := by
  obtain ⟨A1, c1, A2, c2, h1, h2, h3⟩ := h
  refine ⟨A1, c1, A2, c2, fun q u hq => ?_, h2, h3⟩
  have := seven_lt hq
  rw [List.getElem?_append_left (by omega)]
  exact h1 q u hq
theorem RuC.right {w : World} {B i k : Nat} {x : Ru} {cs ds : List Value} (h : RuC w B x ds i) (hl : cs.length = k * 7) : RuC w B x (cs ++ ds) (k + i) := by
  obtain ⟨A1, c1, A2, c2, h1, h2, h3⟩ := h
  refine ⟨A1, c1, A2, c2, fun q u hq => ?_, h2, h3⟩
  rw [List.getElem?_append_right (by omega), hl, show (k + i) * 7 + q - k * 7 = i * 7 + q by omega]
  exact h1 q u hq
/-- A row of rules of the call's own. -/
def RuOwn (w : World) (B : Nat) (rs : List Ru) (v : Value) : Prop := ∃ cs, w.ownsRow B 68 7 v rs.length cs ∧ cs.length = rs.length * 7 ∧ ∀ i x, rs[i]? = some x → RuC w B x cs i
theorem RuOwn.below {w w' : World} {B : Nat} {rs : List Ru} {v : Value} (h : RuOwn w B rs v) (hb : Below w.heap.size w w') (hB : B ≤ w.heap.size) : RuOwn w' B rs v := by
  obtain ⟨cs, h1, h2, h3⟩ := h
  exact ⟨cs, ownsRow_below h1 hb, h2, fun i x hx => (h3 i x hx).below (hb.mono hB)⟩
theorem RuOwn.fz {w w' : World} {X : Nat → Prop} {B : Nat} {rs : List Ru} {v : Value} (h : RuOwn w B rs v) (hf : Fz X w w') (hB : B ≤ w.heap.size) (hX : ∀ k, X k → B ≤ k) (hv : ∀ k, v.ownBlock = some k → ¬ X k) : RuOwn w' B rs v := by
  obtain ⟨cs, h1, h2, h3⟩ := h
  exact ⟨cs, own_fz h1 hf hv, h2, fun i x hx => (h3 i x hx).below (hf.below hB (fun k hk e => by have := hX k e; omega))⟩
theorem RuOwn.full {w : World} {B : Nat} {rs : List Ru} {v : Value} (h : RuOwn w B rs v) (hB : B ≤ w.heap.size) : ∃ A cap, v = .slice A rs.length cap ∧ RsAt w w.heap.size rs A cap := by
  obtain ⟨cs, hown, h2, h3⟩ := h
  rcases hown.2 with ⟨h1, h4⟩ | ⟨g, cap, cur, h1, h5, h6, h7, h8, _⟩
  · have : rs = [] := List.eq_nil_of_length_eq_zero h4
    subst this
    exact ⟨none, 0, by rw [h1]; rfl, by simp, by unfold maxLen; omega, fun hn => absurd rfl hn⟩
  · refine ⟨_, cap, h1, h7, h8, fun _ => ⟨g, 0, rfl, (Array.getElem?_eq_some_iff.1 h6).1, fun i x hx => ?_⟩⟩
    obtain ⟨B1, d1, B2, d2, hc, hN1, hN2⟩ := h3 i x hx
    have cc := fun j u hj => World.ownsRow.cells hown (g := g) (by rw [h1]; rfl) j u hj
    have d : ∀ (j : Nat) (u : Value), cs[j]? = some u → w.cell? ⟨g, j, none⟩ = some u := fun j u hj => by have := cc j u hj; rwa [add0] at this
    have n1 := hN1.mono hB
    have n2 := hN2.mono hB
    refine ⟨B1, d1, B2, d2, ⟨?_, ?_, ?_, ?_, ?_, ?_, ?_⟩, ⟨B1, d1, B2, d2, rfl, n1, n2⟩⟩
    · rw [Nat.zero_add]; exact d _ _ (hc 0 _ rfl)
    · rw [Nat.zero_add]; exact d _ _ (hc 1 _ rfl)
    · rw [Nat.zero_add]; exact d _ _ (hc 2 _ rfl)
    · rw [Nat.zero_add]; exact d _ _ (hc 3 _ rfl)
    · rw [Nat.zero_add]; exact d _ _ (hc 4 _ rfl)
    · rw [Nat.zero_add]; exact d _ _ (hc 5 _ rfl)
    · rw [Nat.zero_add]; exact d _ _ (hc 6 _ rfl)
/-- A list of rules, as cells. -/
theorem rs_cells {w : World} {B : Nat} {ms : List Ru} {A : Option Addr} {c : Nat} (h : RsAt w B ms A c) (hne : ms ≠ []) : ∃ b o, A = some ⟨b, o, none⟩ ∧ b < B ∧ ∀ k, k ≤ ms.length → ∃ news : List Value, news.length = k * 7 ∧
    (∀ j u, news[j]? = some u → w.cell? ⟨b, o + j, none⟩ = some u) ∧ (∀ u ∈ news, u.oneCell' = true) ∧ ∀ i x, i < k → ms[i]? = some x → RuC w B x news i := by
  obtain ⟨b, o, rfl, hb, hr⟩ := h.r hne
  refine ⟨b, o, rfl, hb, fun k => ?_⟩
  induction k with
  | zero => exact fun _ => ⟨[], rfl, fun j u hj => by simp at hj, fun u hu => by simp at hu, fun i x hi => by omega⟩
  | succ k ih =>
    intro hk
    obtain ⟨news, h1, h2, h3, h4⟩ := ih (by omega)
    obtain ⟨x, hx⟩ : ∃ x, ms[k]? = some x := ⟨_, List.getElem?_eq_getElem (by omega)⟩
    obtain ⟨D1, d1, D2, d2, ⟨k0, k1, k2, k3, k4, k5, k6⟩, hv⟩ := hr k x hx
    obtain ⟨_, _, _, _, he, hv1, hv2⟩ := hv
    injection he with he
    have he' := congrArg Array.toList he
    simp at he'
    obtain ⟨⟨rfl, rfl⟩, rfl, rfl⟩ := he'
    have hcell : ∀ q u, (nc x.l D1 d1 ++ nc x.r D2 d2 ++ [.bool x.b])[q]? = some u → w.cell? ⟨b, o + (k * 7 + q), none⟩ = some u := by
      intro q u hq
      have hq7 := seven_lt hq
      rw [← Nat.add_assoc]
      match q, hq7, hq with
      | 0, _, hq => cases hq; exact k0
      | 1, _, hq => cases hq; exact k1
      | 2, _, hq => cases hq; exact k2
      | 3, _, hq => cases hq; exact k3
      | 4, _, hq => cases hq; exact k4
      | 5, _, hq => cases hq; exact k5
      | 6, _, hq => cases hq; exact k6
    refine ⟨news ++ (nc x.l D1 d1 ++ nc x.r D2 d2 ++ [.bool x.b]), by rw [List.length_append, h1]; simp [nc]; omega, fun j u hj => ?_, fun u hu => ?_, fun i y hi hy => ?_⟩
    · by_cases hj2 : j < news.length
      · rw [List.getElem?_append_left hj2] at hj
        exact h2 j u hj
      · rw [List.getElem?_append_right (by omega)] at hj
        have := hcell _ u hj
        rwa [show k * 7 + (j - news.length) = j by omega] at this
    · rcases List.mem_append.1 hu with hu | hu
      · exact h3 u hu
      · simp [nc] at hu
        rcases hu with rfl | rfl | rfl | rfl | rfl | rfl | rfl <;> rfl
    · by_cases hik : i < k
      · exact (h4 i y hik hy).left (by omega)
      · obtain rfl : i = k := by omega
        rw [hx] at hy
        injection hy with hy
        subst hy
        have := RuC.right (w := w) (B := B) (i := 0) (x := x) (ds := nc x.l D1 d1 ++ nc x.r D2 d2 ++ [.bool x.b]) ⟨D1, d1, D2, d2, fun q u hq => by rwa [Nat.zero_mul, Nat.zero_add], hv1, hv2⟩ h1
        rwa [Nat.add_zero] at this
theorem info68_parts : ∃ i z, Try.prog.info? 68 = some i ∧ i.zero = some z ∧ i.size = 7 ∧ i.bytes = 88 ∧ z.cells.size = 7 := by
  have h := info68
  cases e : Try.prog.info? 68 with
  | none => rw [e] at h; simp at h
  | some i =>
    rw [e] at h
    cases e2 : i.zero with
    | none => simp [e2] at h
    | some z =>
      simp [e2] at h
      exact ⟨i, z, rfl, e2, h.2.1, h.2.2, h.1⟩
/-- Rules that lie below are put behind. -/
theorem wpList_appRu {ops : Array Oper} {rest : List Oper} {o : Oper} {a : Act} {w : World} {Q : Exit → Act → World → Prop} (hgd : o.guard = none) (s x : Operand)
    (ho : o.op = .call { callee := .builtin .append, args := #[s, x], argTypes := #[55, 55] }) (B : Nat) (v : Value) (l m : List Ru) (hs : a.eval s = v) (h0 : RuOwn w B l v) (A : Option Addr) (c : Nat) (hm : RsAt w B m A c) (hmz : m = [] → A = none ∧ c = 0) (M : Nat) (hM : m.length = M)
    (hx : a.eval x = .slice A M c) (h63 : l.length + m.length ≤ 1000) (hB : B ≤ w.heap.size)
    (h : ∀ v' w', RuOwn w' B (l ++ m) v' → w.grownBy w' v.ownBlock → Below B w w' → (∀ k, v'.ownBlock = some k → v.ownBlock = some k ∨ w.heap.size ≤ k) → wpList Try.prog ops Q rest (a.put o.dst v') w') : wpList Try.prog ops Q (o :: rest) a w := by
  subst hM
  obtain ⟨i, z, hi, hz, hs1, hb1, hz1⟩ := info68_parts
  obtain ⟨cs, o1, o2, o3⟩ := h0
  by_cases hne : m = []
  · subst hne
    obtain ⟨rfl, rfl⟩ := hmz rfl
    refine wpList_append_own_none hgd s x 55 ho B 68 i 7 Try.underlying55 hi v l.length cs hs o1 hx ?_
    have := h v w (by rw [List.append_nil]; exact ⟨cs, o1, o2, o3⟩) (World.grownBy.refl _ _) (Below.refl _ _) (fun k hk => .inl hk)
    exact this
  · obtain ⟨b, o', rfl, hbl, hc⟩ := rs_cells hm hne
    obtain ⟨news, n1, n2, n3, n4⟩ := hc m.length (Nat.le_refl _)
    have hlen : 0 < m.length := List.length_pos_iff.2 hne
    refine wpList_append_lies _ hgd s x 55 ho B 68 i _ 7 88 Try.underlying55 hi hz hs1 hb1 hz1 (by decide) v l.length cs hs o1 ⟨b, o', none⟩ m.length c news hx n1 (fun j u hj => by rw [Addr.add_mid]; exact n2 j u hj) n3 hlen (by unfold maxLen; omega) (by omega) hB _ rfl ?_
    intro g cap w' h1 h2 h3 _
    have hbw : Below B w w' := ⟨h2.os, h2.tape, h2.output, h2.size, fun k hk => h2.block k (by omega) (fun e => by have := (own_block_lt o1 k e.symm).1; omega)⟩
    refine h _ w' ⟨cs ++ news, by rw [List.length_append]; exact h1, by rw [List.length_append, List.length_append, o2, n1]; omega, fun i x hx => ?_⟩ h2 hbw (fun k hk => by
      simp [Value.ownBlock] at hk
      subst hk
      rcases h3 with h3 | h3
      · exact .inl h3
      · exact .inr (by omega))
    by_cases hi2 : i < l.length
    · rw [List.getElem?_append_left hi2] at hx
      exact ((o3 i x hx).below hbw).left (by omega)
    · rw [List.getElem?_append_right (by omega)] at hx
      have hil := (List.getElem?_eq_some_iff.1 hx).1
      have := ((n4 _ x hil hx).below hbw).right o2
      rwa [show l.length + (i - l.length) = i by omega] at this
def alw7 (br : Bool) : Array Value := #[.int .i64 9, .int .i64 0, .slice none 0 0, .int .i64 9, .int .i64 0, .slice none 0 0, .bool br]
theorem alw_nd (w : World) (B : Nat) : Nd w B alwE (.agg #[.int .i64 9, .int .i64 0, .slice none 0 0]) :=
  Nd_iff.2 ⟨by unfold i64; exact ⟨by decide, by decide⟩, by unfold i64; exact ⟨by decide, by decide⟩, none, 0, rfl, ⟨by decide, by unfold maxLen; omega, fun _ => rfl, fun h => absurd rfl h⟩⟩
theorem alw_c (w : World) (B : Nat) (br : Bool) : RuC w B (alwR br) (alw7 br).toList 0 := ⟨none, 0, none, 0, fun q u hq => by rw [Nat.zero_mul, Nat.zero_add]; exact hq, alw_nd w B, alw_nd w B⟩
theorem alw_own (w : World) (B : Nat) (br : Bool) (hB : B ≤ w.heap.size) : RuOwn (w.alloc (.cells (alw7 br) 68)) B [alwR br] (.slice (some ⟨w.heap.size, 0, none⟩) 1 1) :=
  ⟨(alw7 br).toList, ⟨rfl, .inr ⟨_, 1, _, rfl, hB, cells_new w (alw7 br) 68, Nat.le_refl _, by unfold maxLen; omega, rfl, rfl⟩⟩, rfl, fun i x hx => by
    cases i with
    | zero => simp at hx; subst hx; exact alw_c _ _ _
    | succ i => simp at hx⟩
theorem ruOwn_empty (w : World) (B : Nat) (hB : B ≤ w.heap.size) : RuOwn (w.alloc (.cells #[] 68)) B [] (.slice (some ⟨w.heap.size, 0, none⟩) 0 0) :=
  ⟨[], ⟨rfl, .inr ⟨_, 0, _, rfl, hB, cells_new w #[] 68, Nat.le_refl _, Nat.zero_le _, rfl, rfl⟩⟩, rfl, fun i x hx => by simp at hx⟩
theorem fz_grown {X : Nat → Prop} {a b c : World} {o : Option Nat} (h : Fz X a b) (k : b.grownBy c o) (hg : ∀ j, o = some j → a.heap.size ≤ j) : Fz X a c :=
  ⟨k.os.trans h.os, k.tape.trans h.tape, k.output.trans h.output, Nat.le_trans h.size k.size, fun j hj hn => (k.block j (Nat.lt_of_lt_of_le hj h.size) (fun e => by have := hg j e.symm; omega)).trans (h.block j hj hn)⟩
theorem below_grown2 {a b c : World} {o : Option Nat} (h : Below a.heap.size a b) (k : b.grownBy c o) (hg : ∀ j, o = some j → a.heap.size ≤ j) : Below a.heap.size a c :=
  ⟨k.os.trans h.os, k.tape.trans h.tape, k.output.trans h.output, Nat.le_trans h.size k.size, fun j hj => (k.block j (Nat.lt_of_lt_of_le hj h.size) (fun e => by have := hg j e.symm; omega)).trans (h.block j hj)⟩
/-- The rule that always applies is put behind. -/
theorem wpList_appAlw {ops : Array Oper} {rest : List Oper} {o : Oper} {a : Act} {w : World} {Q : Exit → Act → World → Prop} (hgd : o.guard = none) (s x : Operand)
    (ho : o.op = .call { callee := .builtin .append, args := #[s, x], argTypes := #[55, 55] }) (B : Nat) (v : Value) (l : List Ru) (br : Bool) (hs : a.eval s = v) (h0 : RuOwn w B l v) (G : Nat) (hG : Cells w G 68 (alw7 br))
    (hx : a.eval x = .slice (some ⟨G, 0, none⟩) 1 1) (h63 : l.length ≤ 1000) (hB : B ≤ w.heap.size)
    (h : ∀ v' w', RuOwn w' B (l ++ [alwR br]) v' → w.grownBy w' v.ownBlock → Below B w w' → (∀ k, v'.ownBlock = some k → v.ownBlock = some k ∨ w.heap.size ≤ k) → wpList Try.prog ops Q rest (a.put o.dst v') w') : wpList Try.prog ops Q (o :: rest) a w := by
  obtain ⟨i, z, hi, hz, hs1, hb1, hz1⟩ := info68_parts
  obtain ⟨cs, o1, o2, o3⟩ := h0
  refine wpList_append_lies _ hgd s x 55 ho B 68 i _ 7 88 Try.underlying55 hi hz hs1 hb1 hz1 (by decide) v l.length cs hs o1 ⟨G, 0, none⟩ 1 1 (alw7 br).toList hx rfl (fun j u hj => by rw [add0, hG.cell]; simpa using hj) (fun u hu => by
    simp [alw7] at hu
    rcases hu with rfl | rfl | rfl | rfl | rfl | rfl | rfl <;> rfl) (by decide) (by unfold maxLen; omega) (by omega) hB _ rfl ?_
  intro g cap w' h1 h2 h3 _
  have hbw : Below B w w' := ⟨h2.os, h2.tape, h2.output, h2.size, fun k hk => h2.block k (by omega) (fun e => by have := (own_block_lt o1 k e.symm).1; omega)⟩
  refine h _ w' ⟨cs ++ (alw7 br).toList, by rw [List.length_append]; exact h1, by rw [List.length_append, List.length_append, o2]; simp [alw7]; omega, fun i x hx => ?_⟩ h2 hbw (fun k hk => by
    simp [Value.ownBlock] at hk
    subst hk
    rcases h3 with h3 | h3
    · exact .inl h3
    · exact .inr (by omega))
  by_cases hi2 : i < l.length
  · rw [List.getElem?_append_left hi2] at hx
    exact ((o3 i x hx).below hbw).left (by omega)
  · rw [List.getElem?_append_right (by omega)] at hx
    have hil := (List.getElem?_eq_some_iff.1 hx).1
    simp at hil
    rw [show i - l.length = 0 by omega] at hx
    simp at hx
    subst hx
    have := (alw_c w' B br).right o2
    rwa [show l.length + 0 = i by omega] at this
end Go.Proofs.Ytegkogadceodlaa

namespace Go.Proofs.Ytegkogadceodlaa
open Go.RowKit Go.Shelf Go.Lib Go.Sort

theorem cell3 {W : World} {g T : Nat} {a0 a1 a2 : Value} (h : Cells W g T #[a0, a1, a2]) : W.cell? ⟨g, 0, none⟩ = some a0 ∧ W.cell? ⟨g, 1, none⟩ = some a1 ∧ W.cell? ⟨g, 2, none⟩ = some a2 :=
  ⟨h.cell 0, h.cell 1, h.cell 2⟩
theorem froz3 {W : World} {g T : Nat} {cs : Array Value} (h : Cells W g T cs) : W.frozen? ⟨g, 0, none⟩ = false ∧ W.frozen? ⟨g, 1, none⟩ = false ∧ W.frozen? ⟨g, 2, none⟩ = false :=
  ⟨h.froz 0, h.froz 1, h.froz 2⟩
theorem set3 {W : World} {g T : Nat} {a0 a1 a2 : Value} (h : Cells W g T #[a0, a1, a2]) (v0 v1 v2 : Value) :
    ∃ W', (((W.setCell ⟨g, 0, none⟩ v0).setCell ⟨g, 1, none⟩ v1).setCell ⟨g, 2, none⟩ v2) = W' ∧ Cells W' g T #[v0, v1, v2] ∧ Fz (fun z => z = g) W W' := by
  have z1 : Cells _ g T #[v0, a1, a2] := h.set 0 v0
  have z2 : Cells _ g T #[v0, v1, a2] := z1.set 1 v1
  have z3 : Cells _ g T #[v0, v1, v2] := z2.set 2 v2
  have s := fun (V : World) (i : Nat) (v : Value) => Fz.set (X := fun z => z = g) V g i v rfl
  exact ⟨_, rfl, z3, ((s _ 0 _).trans (s _ 1 _)).trans (s _ 2 _)⟩
theorem fz_new {a b c : World} {g : Nat} (h : Fz (fun _ => False) a b) (k : Fz (fun z => z = g) b c) (hg : a.heap.size ≤ g) : Fz (fun _ => False) a c :=
  ⟨k.os.trans h.os, k.tape.trans h.tape, k.output.trans h.output, Nat.le_trans h.size k.size, fun j hj hn => (k.block j (Nat.lt_of_lt_of_le hj h.size) (fun e => by omega)).trans (h.block j hj hn)⟩
/-- Two meanings in blocks of their own. -/
structure P2 (w : World) (A B : Array Value) (G1 G2 : Nat) (W : World) : Prop where
  b : Below w.heap.size w W
  x : Cells W G1 57 A
  y : Cells W G2 57 B
  ne : G1 ≠ G2
  g1 : w.heap.size ≤ G1
  g2 : w.heap.size ≤ G2
theorem own_lt {w : World} {B : Nat} {rs : List Ru} {v : Value} (h : RuOwn w B rs v) {k : Nat} (hk : v.ownBlock = some k) : k < w.heap.size := by
  obtain ⟨cs, h1, _⟩ := h
  exact (own_block_lt h1 k hk).2
theorem below_on {w W W' : World} (h1 : Below w.heap.size w W) (h2 : Below W.heap.size W W') : Below w.heap.size w W' := h1.trans (h2.mono h1.size)
/-- A meaning copied; without rules its list is nil. -/
theorem toT_z (t : Tx) (v : Value) (w : World) (h : TxV w w.heap.size t v) (hmx : ∀ x ∈ t.rs, szE x.l ≤ 100000 ∧ szE x.r ≤ 100000) (hn : t.rs.length ≤ 900) :
    Calls Try.prog 27 #[v] w fun e w' => ∃ A1 c1 A2 c2 A3 c3, e = .returned (.agg #[.slice A1 t.ig.length c1, .slice A2 t.kp.length c2, .slice A3 t.rs.length c3]) ∧ IS w' w'.heap.size t.ig A1 c1 ∧ IS w' w'.heap.size t.kp A2 c2 ∧ RsAt w' w'.heap.size t.rs A3 c3 ∧ (t.rs = [] → A3 = none ∧ c3 = 0) ∧ Below w.heap.size w w' := by
  by_cases hne : t.rs = []
  · obtain ⟨A1, c1, A2, c2, A3, c3, rfl, h1, h2, h3⟩ := h
    rw [hne]
    refine (toT_nil A1 A2 A3 t.ig.length c1 t.kp.length c2 c3 w).mono ?_
    rintro e w' ⟨rfl, hb⟩
    exact ⟨A1, c1, A2, c2, none, 0, rfl, h1.on hb, h2.on hb, ⟨by simp, by unfold maxLen; omega, fun h => absurd rfl h⟩, fun _ => ⟨rfl, rfl⟩, hb⟩
  · refine (toT_any t v w h hmx hn).mono ?_
    rintro e w' ⟨v', rfl, ⟨A1, c1, A2, c2, A3, c3, rfl, h1, h2, h3⟩, hb⟩
    exact ⟨A1, c1, A2, c2, A3, c3, rfl, h1, h2, h3, fun e => absurd e hne, hb⟩

set_option maxRecDepth 100000 in
set_option maxHeartbeats 16000000 in
theorem first_law (AWK : AwakeOk) (t : Tx) (v : Value) (ids : List Int) (A : Option Addr) (cap : Nat) (br : Bool) (w : World) (h : TxV w w.heap.size t v) (hi : IS w w.heap.size ids A cap) :
    Calls Try.prog 10 #[v, .slice A ids.length cap, .bool br] w fun e w' => e = .returned (.bool true) ∧ Below w.heap.size w w' := by
  have h' := h
  obtain ⟨A1, c1, A2, c2, A3, c3, rfl, _, _, h3'⟩ := h'
  have hil := hi.len
  obtain ⟨n, hN⟩ : ∃ n, ids.length = n := ⟨_, rfl⟩
  have hrl : t.rs.length ≤ 9223372036854775807 := by have := h3'.l; have := h3'.m; unfold maxLen at this; omega
  clear h3'
  obtain ⟨W0, hW0⟩ : ∃ W0, w.alloc (.cells #[.slice A1 t.ig.length c1, .slice A2 t.kp.length c2, .slice A3 t.rs.length c3] 50) = W0 := ⟨_, rfl⟩
  have hb0 : Below w.heap.size w W0 := by rw [← hW0]; exact below_new _ _
  have hz0 : W0.heap.size = w.heap.size + 1 := by rw [← hW0]; simp
  have x0 : Cells W0 w.heap.size 50 #[.slice A1 t.ig.length c1, .slice A2 t.kp.length c2, .slice A3 t.rs.length c3] := by rw [← hW0]; exact cells_new _ _ _
  have GR := great_any t _ W0 (h.on hb0)
  obtain ⟨m, hm⟩ : ∃ m, t.rs.length = m := ⟨_, rfl⟩
  rw [hm] at x0 hW0 hrl GR
  have HW := Lib.hid hW0
  have HH := Lib.hid (And.intro h (And.intro hi (And.intro hN (And.intro hb0 (And.intro hz0 (And.intro x0 hm))))))
  rw [hN] at hil ⊢
  rw [hm]
  have HA := Lib.hid AWK
  clear h hi hN hW0 hb0 hz0 x0 AWK hm
  go_enter Try.func10, Try.ntmps10
  go_wp2_with fail
  rw [HW.out]
  refine GR.mono ?_
  rintro r w1 ⟨⟨g, rfl, hgs⟩, hb1⟩
  have hbw1 := HH.out.2.2.2.1.trans (hb1.mono HH.out.2.2.2.1.size)
  have HG := Lib.hid (And.intro hb1 (And.intro hbw1 hgs))
  have k2 : w1.cell? ⟨w.heap.size, 2, none⟩ = some (.slice A3 m c3) := (HH.out.2.2.2.2.2.1.on hb1).cell 2
  clear GR hb1 hbw1 hgs
  cases g with
  | true =>
    go_wp2_with fail
    refine (HA.out _).mono ?_
    rintro r w2 ⟨rfl, hb2⟩
    have HB := Lib.hid (HG.out.2.1.trans (hb2.mono HG.out.2.1.size))
    clear hb2
    go_wp2_with fail
    go_ret
    exact ⟨rfl, HB.out⟩
  | false =>
    by_cases h60 : 14 < n ∨ 30 < m
    · rcases (show 14 < n ∨ (¬ 14 < n ∧ 30 < m) by omega) with h1 | ⟨h1, h2⟩
      all_goals
        first
        | have i1 : (14 : Int) < (n : Int) := by omega
        | have i1 : ¬ (14 : Int) < (n : Int) := by omega
          have i2 : (30 : Int) < (m : Int) := by omega
        clear h60
        go_wp2_with fail
        refine (HA.out _).mono ?_
        rintro r w2 ⟨rfl, hb2⟩
        have HB := Lib.hid (HG.out.2.1.trans (hb2.mono HG.out.2.1.size))
        clear hb2
        go_wp2_with fail
        go_ret
        exact ⟨rfl, HB.out⟩
    · have i1 : ¬ (14 : Int) < (n : Int) := by omega
      have i2 : ¬ (30 : Int) < (m : Int) := by omega
      have h14 : n ≤ 14 ∧ m ≤ 30 := by omega
      have H14 := Lib.hid h14
      clear h60 h14
      go_wp2_with fail
      refine (HA.out _).mono ?_
      rintro r w2 ⟨rfl, hb2⟩
      have hbw2 := HG.out.2.1.trans (hb2.mono HG.out.2.1.size)
      have x2 := HH.out.2.2.2.2.2.1.on (HG.out.1.trans (hb2.mono HG.out.1.size))
      have k0 : w2.cell? ⟨w.heap.size, 0, none⟩ = some (.slice A1 t.ig.length c1) := x2.cell 0
      have k1 : w2.cell? ⟨w.heap.size, 1, none⟩ = some (.slice A2 t.kp.length c2) := x2.cell 1
      clear k2
      have k2 : w2.cell? ⟨w.heap.size, 2, none⟩ = some (.slice A3 m c3) := x2.cell 2
      have hsm := HG.out.2.2 (by trivial)
      unfold smallT at hsm
      have C1 := toT_z t _ w2 (HH.out.1.on hbw2) (fun x hx => by have := hsm.2.2.2 x hx; omega) (by have := HH.out.2.2.2.2.2.2; have := H14.out; omega)
      rw [HH.out.2.2.2.2.2.2] at C1
      have HB := Lib.hid hbw2
      clear hb2 hbw2 x2 hsm
      go_wp2_with fail
      refine C1.mono ?_
      rintro r w3 ⟨B1, d1, B2, d2, B3, d3, rfl, s1, s2, s3, s4, hb3⟩
      clear C1 k0 k1 k2
      have b3 := HB.out.trans (hb3.mono HB.out.size)
      obtain ⟨W3, hW3⟩ : ∃ V, w3.alloc (.cells #[.slice B1 t.ig.length d1, .slice B2 t.kp.length d2, .slice B3 m d3] 57) = V := ⟨_, rfl⟩
      have bn : Below w3.heap.size w3 W3 := by rw [← hW3]; exact below_new _ _
      have x3 : Cells W3 w3.heap.size 57 #[.slice B1 t.ig.length d1, .slice B2 t.kp.length d2, .slice B3 m d3] := by rw [← hW3]; exact cells_new _ _ _
      have b33 := b3.trans (bn.mono b3.size)
      have sx : TxV W3 W3.heap.size t (.agg #[.slice B1 t.ig.length d1, .slice B2 t.kp.length d2, .slice B3 m d3]) := ⟨B1, d1, B2, d2, B3, d3, by rw [HH.out.2.2.2.2.2.2], s1.on bn, s2.on bn, (s3.below bn).mono bn.size⟩
      have CR := rightT_any t _ W3 sx
      obtain ⟨y0, y1, y2⟩ := cell3 x3
      have H3 := Lib.hid (And.intro b33 (And.intro sx (And.intro x3 (And.intro hW3 s4))))
      clear hb3 b3 s1 s2 s3 s4 bn x3 b33 hW3 sx
      go_wp2_with fail
      rw [H3.out.2.2.2.1]
      go_wp2_with fail
      refine CR.mono ?_
      rintro r w4 ⟨rfl, hb4⟩
      clear CR y0 y1 y2
      have b4 := H3.out.1.trans (hb4.mono H3.out.1.size)
      cases hR : rightT t with
      | false =>
        clear hR
        go_wp2_with fail
        go_ret
        exact ⟨rfl, b4⟩
      | true =>
        have x4 := H3.out.2.2.1.on hb4
        obtain ⟨W5, hW5⟩ : ∃ V, w4.alloc (.cells (alw7 br) 68) = V := ⟨_, rfl⟩
        have bn : Below w4.heap.size w4 W5 := by rw [← hW5]; exact below_new _ _
        have x5 : Cells W5 w4.heap.size 68 (alw7 br) := by rw [← hW5]; exact cells_new _ _ _
        have y5 := x4.on bn
        have b5 := below_on b4 bn
        have sx := H3.out.2.1.on (below_on hb4 bn)
        have s34 : w3.heap.size < w4.heap.size := x4.lt
        have H5 := Lib.hid (And.intro b5 (And.intro sx (And.intro y5 (And.intro x5 (And.intro hR (And.intro hW5 s34))))))
        clear hb4 b4 hR x4 bn x5 y5 b5 sx hW5 s34
        go_upto_region 7 with fail
        have HW5 := H5.out.2.2.2.2.2.1
        unfold alw7 at HW5
        rw [HW5]
        clear HW5
        go_cut [9, 10] from 43 to 153 (fun v1 v2 wx => ∃ G1 G2, v1 = .pointer (some ⟨G1, 0, none⟩) ∧ v2 = .pointer (some ⟨G2, 0, none⟩) ∧ P2 W5 #[.slice B1 t.ig.length d1, .slice B2 t.kp.length d2, .slice B3 m d3] #[.slice B1 t.ig.length d1, .slice B2 t.kp.length d2, .slice B3 m d3] G1 G2 wx)
        case first =>
          have q0 : ∀ p : Later (fun _ => False) W5, p.W.cell? ⟨w3.heap.size, 0, none⟩ = some (.slice B1 t.ig.length d1) := fun p => cell_later (H5.out.2.2.1.cell 0) (fun hf => hf) p
          have q1 : ∀ p : Later (fun _ => False) W5, p.W.cell? ⟨w3.heap.size, 1, none⟩ = some (.slice B2 t.kp.length d2) := fun p => cell_later (H5.out.2.2.1.cell 1) (fun hf => hf) p
          have q2 : ∀ p : Later (fun _ => False) W5, p.W.cell? ⟨w3.heap.size, 2, none⟩ = some (.slice B3 m d3) := fun p => cell_later (H5.out.2.2.1.cell 2) (fun hf => hf) p
          refine wp_region_mixF (fun i => if 2 ≤ i then 2 else 0) [0, 1] 4 (fun w' => ∃ P : Later (fun _ => False) W5, w' = P.W) (by kernel_rfl) (by kernel_rfl) ⟨⟨_, Fz.drew W5⟩, rfl⟩ ?_
          simp only [opsAt, List.filterMap_cons, List.filterMap_nil, List.getElem?_toArray, List.getElem?_cons_zero, List.getElem?_cons_succ]
          change wpQuiet _ _ _ _ [_, _] _
          repeat (go_big_quiet_step (fail))
          refine wpQuiet_nil ?_
          clear q0 q1 q2
          have z0 := Fz.drew (X := fun _ => False) W5
          have bd := z0.below (B := W5.heap.size) (Nat.le_refl _) (fun _ _ h => h)
          obtain ⟨W6, hW6⟩ : ∃ V, ({ W5 with drawn := W5.drawn + 1 } : World) = V := ⟨_, rfl⟩
          rw [hW6] at z0 bd ⊢
          clear hW6
          have H6 := Lib.hid (And.intro z0 bd)
          clear z0 bd
          refine wpFreeM_step [2, 3] (by kernel_rfl) ⟨?_, ?_, trivial⟩
          ·
            refine wpOp_of_list rfl ?_
            have y1 := cells_new W6 #[.slice none 0 0, .slice none 0 0, .slice none 0 0] 57
            have c1 := below_new W6 (.cells #[.slice none 0 0, .slice none 0 0, .slice none 0 0] 57)
            have sz : (W6.alloc (.cells #[.slice none 0 0, .slice none 0 0, .slice none 0 0] 57)).heap.size = W6.heap.size + 1 := by simp
            obtain ⟨V5, hV5⟩ : ∃ V, W6.alloc (.cells #[.slice none 0 0, .slice none 0 0, .slice none 0 0] 57) = V := ⟨_, rfl⟩
            rw [hV5] at y1 c1 sz
            have y2 := cells_new V5 #[.slice none 0 0, .slice none 0 0, .slice none 0 0] 57
            have c2 := below_new V5 (.cells #[.slice none 0 0, .slice none 0 0, .slice none 0 0] 57)
            obtain ⟨V6, hV6⟩ : ∃ V, V5.alloc (.cells #[.slice none 0 0, .slice none 0 0, .slice none 0 0] 57) = V := ⟨_, rfl⟩
            rw [hV6] at y2 c2
            rw [sz] at y2
            have zf5 := H6.out.1.trans (Fz.of_below c1)
            have zf6 := zf5.trans (Fz.of_below c2)
            have yy1 := y1.on c2
            have bl := below_on H6.out.2 (below_on c1 c2)
            have s0 := H6.out.2.size
            have HV5 := Lib.hid hV5
            have HV6 := Lib.hid hV6
            have HY := Lib.hid (And.intro zf5 (And.intro zf6 (And.intro yy1 (And.intro y2 bl))))
            clear y1 c1 y2 c2 hV5 hV6 zf5 zf6 yy1 bl
            go_wp2_with fail
            rw [HV5.out]
            refine ⟨⟨⟨_, HY.out.1⟩, rfl⟩, ?_⟩
            refine wpFreeM_step [3] (by kernel_rfl) ⟨?_, trivial⟩
            refine wpOp_of_list rfl ?_
            go_wp2_with fail
            rw [HV6.out]
            refine ⟨⟨⟨_, HY.out.2.1⟩, rfl⟩, ?_⟩
            refine wpFreeM_step [4] (by kernel_rfl) ⟨?_, trivial⟩
            refine wpOp_of_list rfl ?_
            obtain ⟨f0, f1, f2⟩ := froz3 HY.out.2.2.1
            obtain ⟨c0, c1, c2⟩ := cell3 HY.out.2.2.1
            go_wp2_with fail
            obtain ⟨W7, hW7, z7, k7⟩ := set3 HY.out.2.2.1 (.slice B1 t.ig.length d1) (.slice B2 t.kp.length d2) (.slice B3 m d3)
            rw [hW7]
            clear hW7 f0 f1 f2 c0 c1 c2
            have n2 := k7.cells (show ¬ W6.heap.size + 1 = W6.heap.size by omega) HY.out.2.2.2.1
            have e7 : Fz (fun _ => False) W5 W7 := fz_new HY.out.2.1 k7 (by omega)
            have b7 : Below W5.heap.size W5 W7 := HY.out.2.2.2.2.trans (k7.below HY.out.2.2.2.2.size (fun k hk e => by omega))
            have H7 := Lib.hid (And.intro e7 (And.intro z7 (And.intro n2 b7)))
            clear e7 z7 n2 b7 k7
            refine ⟨⟨⟨_, H7.out.1⟩, rfl⟩, ?_⟩
            refine wpFreeM_step [5] (by kernel_rfl) ⟨?_, trivial⟩
            refine wpOp_of_list rfl ?_
            obtain ⟨f0, f1, f2⟩ := froz3 H7.out.2.2.1
            obtain ⟨c0, c1, c2⟩ := cell3 H7.out.2.2.1
            go_wp2_with fail
            obtain ⟨W8, hW8, z8, k8⟩ := set3 H7.out.2.2.1 (.slice B1 t.ig.length d1) (.slice B2 t.kp.length d2) (.slice B3 m d3)
            rw [hW8]
            clear hW8 f0 f1 f2 c0 c1 c2
            have n1 := k8.cells (show ¬ W6.heap.size = W6.heap.size + 1 by omega) H7.out.2.1
            have e8 : Fz (fun _ => False) W5 W8 := fz_new H7.out.1 k8 (by omega)
            have b8 : Below W5.heap.size W5 W8 := H7.out.2.2.2.trans (k8.below H7.out.2.2.2.size (fun k hk e => by omega))
            have H8 := Lib.hid (And.intro n1 (And.intro z8 b8))
            clear n1 z8 k8
            refine ⟨⟨⟨_, e8⟩, rfl⟩, ?_⟩
            clear e8 b8
            unfold wpFreeM
            go_wp2_with fail
            go_meet
            exact ⟨_, _, rfl, rfl, H8.out.2.2, H8.out.1, H8.out.2.1, by omega, by omega, by omega⟩
          ·
            refine wpOp_of_list rfl ?_
            have y1 := cells_new W6 #[.slice none 0 0, .slice none 0 0, .slice none 0 0] 57
            have c1 := below_new W6 (.cells #[.slice none 0 0, .slice none 0 0, .slice none 0 0] 57)
            have sz : (W6.alloc (.cells #[.slice none 0 0, .slice none 0 0, .slice none 0 0] 57)).heap.size = W6.heap.size + 1 := by simp
            obtain ⟨V5, hV5⟩ : ∃ V, W6.alloc (.cells #[.slice none 0 0, .slice none 0 0, .slice none 0 0] 57) = V := ⟨_, rfl⟩
            rw [hV5] at y1 c1 sz
            have y2 := cells_new V5 #[.slice none 0 0, .slice none 0 0, .slice none 0 0] 57
            have c2 := below_new V5 (.cells #[.slice none 0 0, .slice none 0 0, .slice none 0 0] 57)
            obtain ⟨V6, hV6⟩ : ∃ V, V5.alloc (.cells #[.slice none 0 0, .slice none 0 0, .slice none 0 0] 57) = V := ⟨_, rfl⟩
            rw [hV6] at y2 c2
            rw [sz] at y2
            have zf5 := H6.out.1.trans (Fz.of_below c1)
            have zf6 := zf5.trans (Fz.of_below c2)
            have yy1 := y1.on c2
            have bl := below_on H6.out.2 (below_on c1 c2)
            have s0 := H6.out.2.size
            have HV5 := Lib.hid hV5
            have HV6 := Lib.hid hV6
            have HY := Lib.hid (And.intro zf5 (And.intro zf6 (And.intro yy1 (And.intro y2 bl))))
            clear y1 c1 y2 c2 hV5 hV6 zf5 zf6 yy1 bl
            go_wp2_with fail
            rw [HV5.out]
            refine ⟨⟨⟨_, HY.out.1⟩, rfl⟩, ?_⟩
            refine wpFreeM_step [2] (by kernel_rfl) ⟨?_, trivial⟩
            refine wpOp_of_list rfl ?_
            go_wp2_with fail
            rw [HV6.out]
            refine ⟨⟨⟨_, HY.out.2.1⟩, rfl⟩, ?_⟩
            refine wpFreeM_step [4] (by kernel_rfl) ⟨?_, trivial⟩
            refine wpOp_of_list rfl ?_
            obtain ⟨f0, f1, f2⟩ := froz3 HY.out.2.2.2.1
            obtain ⟨c0, c1, c2⟩ := cell3 HY.out.2.2.2.1
            go_wp2_with fail
            obtain ⟨W7, hW7, z7, k7⟩ := set3 HY.out.2.2.2.1 (.slice B1 t.ig.length d1) (.slice B2 t.kp.length d2) (.slice B3 m d3)
            rw [hW7]
            clear hW7 f0 f1 f2 c0 c1 c2
            have n2 := k7.cells (show ¬ W6.heap.size = W6.heap.size + 1 by omega) HY.out.2.2.1
            have e7 : Fz (fun _ => False) W5 W7 := fz_new HY.out.2.1 k7 (by omega)
            have b7 : Below W5.heap.size W5 W7 := HY.out.2.2.2.2.trans (k7.below HY.out.2.2.2.2.size (fun k hk e => by omega))
            have H7 := Lib.hid (And.intro e7 (And.intro z7 (And.intro n2 b7)))
            clear e7 z7 n2 b7 k7
            refine ⟨⟨⟨_, H7.out.1⟩, rfl⟩, ?_⟩
            refine wpFreeM_step [5] (by kernel_rfl) ⟨?_, trivial⟩
            refine wpOp_of_list rfl ?_
            obtain ⟨f0, f1, f2⟩ := froz3 H7.out.2.2.1
            obtain ⟨c0, c1, c2⟩ := cell3 H7.out.2.2.1
            go_wp2_with fail
            obtain ⟨W8, hW8, z8, k8⟩ := set3 H7.out.2.2.1 (.slice B1 t.ig.length d1) (.slice B2 t.kp.length d2) (.slice B3 m d3)
            rw [hW8]
            clear hW8 f0 f1 f2 c0 c1 c2
            have n1 := k8.cells (show ¬ W6.heap.size + 1 = W6.heap.size by omega) H7.out.2.1
            have e8 : Fz (fun _ => False) W5 W8 := fz_new H7.out.1 k8 (by omega)
            have b8 : Below W5.heap.size W5 W8 := H7.out.2.2.2.trans (k8.below H7.out.2.2.2.size (fun k hk e => by omega))
            have H8 := Lib.hid (And.intro n1 (And.intro z8 b8))
            clear n1 z8 k8
            refine ⟨⟨⟨_, e8⟩, rfl⟩, ?_⟩
            clear e8 b8
            unfold wpFreeM
            go_wp2_with fail
            go_meet
            exact ⟨_, _, rfl, rfl, H8.out.2.2, H8.out.1, H8.out.2.1, by omega, by omega, by omega⟩
        case rest =>
          obtain ⟨G1, G2, rfl, rfl, hP⟩ := hcut
          have HP := Lib.hid (And.intro hP.b (And.intro hP.g1 (And.intro hP.g2 hP.ne)))
          have x8 : Cells wc w4.heap.size 68 (alw7 br) := H5.out.2.2.2.1.on hP.b
          have x7 := H5.out.2.2.1.on hP.b
          have sw : W5.heap.size ≤ wc.heap.size := hP.b.size
          have hrs : RsAt wc W5.heap.size t.rs B3 d3 := by
            obtain ⟨_, _, _, _, A', c', e, _, _, h3⟩ := H5.out.2.1
            simp only [Value.agg.injEq] at e
            have e' := congrArg Array.toList e
            simp at e'
            obtain ⟨_, _, rfl, _, rfl⟩ := e'
            exact h3.below hP.b
          obtain ⟨z0, z1, z2⟩ := cell3 x7
          have g0 := x8.cell 0
          have g1 := x8.cell 1
          have g2 := x8.cell 2
          have g3 := x8.cell 3
          have g4 := x8.cell 4
          have g5 := x8.cell 5
          have g6 := x8.cell 6
          simp [alw7] at g0 g1 g2 g3 g4 g5 g6
          have own0 := alw_own wc W5.heap.size br sw
          have al := below_new wc (.cells (alw7 br) 68)
          have nG1 := hP.x.lt
          have nx3 := x7.lt
          have HQ := Lib.hid (And.intro hP.x (And.intro hP.y (And.intro x8 x7)))
          have hm30 := H14.out.2
          have hrs1 : RsAt (wc.alloc (.cells (alw7 br) 68)) W5.heap.size t.rs B3 d3 := hrs.below (al.mono sw)
          have ssz : W5.heap.size ≤ (wc.alloc (.cells (alw7 br) 68)).heap.size := by rw [World.size_alloc]; omega
          have HO := Lib.hid (And.intro own0 (And.intro al (And.intro hrs1 (And.intro hrs ssz))))
          clear hP x8 x7 own0 al hrs hrs1 ssz
          go_upto_region 8 with fail
          go_cut [6] from 45 to 153 (fun v6 wx => ∃ Ay cy, v6 = .bool false ∧ Cells wx G1 57 #[.slice B1 t.ig.length d1, .slice B2 t.kp.length d2, .slice Ay (m + 1) cy] ∧ RuOwn wx W5.heap.size (alwR br :: t.rs) (.slice Ay (m + 1) cy) ∧ Cells wx G2 57 #[.slice B1 t.ig.length d1, .slice B2 t.kp.length d2, .slice B3 m d3] ∧ Below W5.heap.size W5 wx ∧ (∀ k, (Value.slice Ay (m + 1) cy).ownBlock = some k → k ≠ G2))
          case first =>
            go_wp2_with (at_builtin; refine wpList_appRu rfl (.tmp 46) (.tmp 48) rfl W5.heap.size _ [alwR br] t.rs rfl HO.out.1 B3 d3 HO.out.2.2.1 H3.out.2.2.2.2 m HH.out.2.2.2.2.2.2 rfl (by rw [HH.out.2.2.2.2.2.2]; simp; omega) HO.out.2.2.2.2 ?_)
            intro vy wy oy gy bby vyb
            have blk : ∀ k, k < wc.heap.size → wy.heap[k]? = wc.heap[k]? := fun k hk => (gy.block k (by rw [World.size_alloc]; omega) (by simp [Value.ownBlock]; omega)).trans (HO.out.2.1.block k hk)
            have c1 : Cells wy G1 57 #[.slice B1 t.ig.length d1, .slice B2 t.kp.length d2, .slice B3 m d3] := (blk _ nG1).trans HQ.out.1
            have c2 : Cells wy G2 57 #[.slice B1 t.ig.length d1, .slice B2 t.kp.length d2, .slice B3 m d3] := (blk _ HQ.out.2.1.lt).trans HQ.out.2.1
            have bw : Below W5.heap.size W5 wy := HP.out.1.trans ((HO.out.2.1.mono sw).trans bby)
            obtain ⟨Ay, cy, rfl, _⟩ := oy.full bw.size
            simp only [List.length_cons, HH.out.2.2.2.2.2.2] at oy ⊢
            have ng : ∀ k, (Value.slice Ay (m + 1) cy).ownBlock = some k → k ≠ G1 ∧ k ≠ G2 := by
              intro k hk
              have s1 := HQ.out.2.1.lt
              simp only [List.length_cons, HH.out.2.2.2.2.2.2] at vyb
              rcases vyb k hk with h | h
              · simp [Value.ownBlock] at h
                omega
              · omega
            have HY := Lib.hid (And.intro oy (And.intro c1 (And.intro c2 (And.intro bw ng))))
            obtain ⟨f0, f1, f2⟩ := froz3 c1
            obtain ⟨e0, e1, e2⟩ := cell3 c1
            clear blk c1 c2 bw oy gy bby vyb ng z0 z1 z2 g0 g1 g2 g3 g4 g5 g6
            go_wp2_with fail
            go_meet
            have fz := Fz.set (X := fun z => z = G1) wy G1 2 (.slice Ay (m + 1) cy) rfl
            refine ⟨Ay, cy, rfl, HY.out.2.1.set 2 _, ?_, fz.cells (fun e => HP.out.2.2.2 e.symm) HY.out.2.2.1, HY.out.2.2.2.1.trans (fz.below HY.out.2.2.2.1.size (fun k hk e => by have := HP.out.2.1; omega)), fun k hk => (HY.out.2.2.2.2 k hk).2⟩
            exact HY.out.1.fz fz HY.out.2.2.2.1.size (fun k e => by rw [e]; exact HP.out.2.1) (fun k hk e => (HY.out.2.2.2.2 k hk).1 e)
          case rest =>
            obtain ⟨Ay, cy, rfl, hP⟩ := hcut
            have x8 : Cells wc w4.heap.size 68 (alw7 br) := H5.out.2.2.2.1.on hP.2.2.2.1
            have x7 := H5.out.2.2.1.on hP.2.2.2.1
            have hrs := (HO.out.2.2.2.1)
            have hrs9 : RsAt wc W5.heap.size t.rs B3 d3 := by
              obtain ⟨_, _, _, _, A', c', e, _, _, h3⟩ := H5.out.2.1
              simp only [Value.agg.injEq] at e
              have e' := congrArg Array.toList e
              simp at e'
              obtain ⟨_, _, rfl, _, rfl⟩ := e'
              exact h3.below hP.2.2.2.1
            obtain ⟨wk, hwk⟩ : ∃ V : World, wc = V := ⟨_, rfl⟩
            rw [hwk] at x8 x7 hP hrs9
            rw [hwk]
            clear hwk
            have q0 : ∀ p : Later (fun k => k = G2) wk, p.W.cell? ⟨w3.heap.size, 2, none⟩ = some (.slice B3 m d3) := fun p => cell_later (x7.cell 2) (fun hf => by have := HP.out.2.2.1; have := H5.out.2.2.2.2.2.2; have := H5.out.2.2.2.1.lt; omega) p
            have g0 : ∀ p : Later (fun k => k = G2) wk, p.W.cell? ⟨w4.heap.size, 0, none⟩ = some (.int .i64 9) := fun p => cell_later (x8.cell 0) (fun hf => by have := HP.out.2.2.1; have := H5.out.2.2.2.1.lt; omega) p
            have g1 : ∀ p : Later (fun k => k = G2) wk, p.W.cell? ⟨w4.heap.size, 1, none⟩ = some (.int .i64 0) := fun p => cell_later (x8.cell 1) (fun hf => by have := HP.out.2.2.1; have := H5.out.2.2.2.1.lt; omega) p
            have g2 : ∀ p : Later (fun k => k = G2) wk, p.W.cell? ⟨w4.heap.size, 2, none⟩ = some (.slice none 0 0) := fun p => cell_later (x8.cell 2) (fun hf => by have := HP.out.2.2.1; have := H5.out.2.2.2.1.lt; omega) p
            have g3 : ∀ p : Later (fun k => k = G2) wk, p.W.cell? ⟨w4.heap.size, 3, none⟩ = some (.int .i64 9) := fun p => cell_later (x8.cell 3) (fun hf => by have := HP.out.2.2.1; have := H5.out.2.2.2.1.lt; omega) p
            have g4 : ∀ p : Later (fun k => k = G2) wk, p.W.cell? ⟨w4.heap.size, 4, none⟩ = some (.int .i64 0) := fun p => cell_later (x8.cell 4) (fun hf => by have := HP.out.2.2.1; have := H5.out.2.2.2.1.lt; omega) p
            have g5 : ∀ p : Later (fun k => k = G2) wk, p.W.cell? ⟨w4.heap.size, 5, none⟩ = some (.slice none 0 0) := fun p => cell_later (x8.cell 5) (fun hf => by have := HP.out.2.2.1; have := H5.out.2.2.2.1.lt; omega) p
            have g6 : ∀ p : Later (fun k => k = G2) wk, p.W.cell? ⟨w4.heap.size, 6, none⟩ = some (.bool br) := fun p => cell_later (x8.cell 6) (fun hf => by have := HP.out.2.2.1; have := H5.out.2.2.2.1.lt; omega) p
            have H9 := Lib.hid (And.intro hP (And.intro hrs9 (And.intro x7 x8)))
            have hm30 := H14.out.2
            clear hP hrs9 x7 x8 hrs
            go_upto_region 9 with fail
            go_cut [6] from 51 to 153 (fun v6 wx => ∃ Az cz, v6 = .bool false ∧ Cells wx G2 57 #[.slice B1 t.ig.length d1, .slice B2 t.kp.length d2, .slice Az (m + 1) cz] ∧ RuOwn wx W5.heap.size (t.rs ++ [alwR br]) (.slice Az (m + 1) cz) ∧ Fz (fun k => k = G2) wk wx)
            case first =>
              refine wp_region_mixF (fun i => if i = 1 ∨ i = 2 ∨ i = 4 then 0 else 2) [1, 2, 4] 6 (fun w' => ∃ P : Later (fun k => k = G2) wk, w' = P.W) (by kernel_rfl) (by kernel_rfl) ⟨⟨_, Fz.drew wk⟩, rfl⟩ ?_
              simp only [opsAt, List.filterMap_cons, List.filterMap_nil, List.getElem?_toArray, List.getElem?_cons_zero, List.getElem?_cons_succ]
              change wpQuiet _ _ _ _ [_, _, _] _
              repeat (go_big_quiet_step (fail))
              refine wpQuiet_nil ?_
              clear q0 g0 g1 g2 g3 g4 g5 g6
              have z0 := Fz.drew (X := fun k => k = G2) wk
              have bd := (Fz.drew (X := fun _ => False) wk).below (B := wk.heap.size) (Nat.le_refl _) (fun _ _ h => h)
              obtain ⟨V0, hV0⟩ : ∃ V, ({ wk with drawn := wk.drawn + 1 } : World) = V := ⟨_, rfl⟩
              rw [hV0] at z0 bd ⊢
              clear hV0
              have K0 := Lib.hid (And.intro z0 (And.intro bd (And.intro True.intro (And.intro True.intro True.intro))))
              clear z0 bd
              refine wpFreeM_step [0, 5] (by kernel_rfl) ⟨?_, ?_, trivial⟩
              ·
                refine wpOp_of_list rfl ?_
                have c1 := below_new V0 (.cells #[] 68)
                have sz := K0.out.2.1.size
                have y1 := ruOwn_empty V0 W5.heap.size (by have := HP.out.1.size; have := H9.out.1.2.2.2.1.size; have := K0.out.2.1.size; omega)
                have nb : ∀ k, (Value.slice (some ⟨V0.heap.size, 0, none⟩) 0 0).ownBlock = some k → wk.heap.size ≤ k := fun k hk => by simp [Value.ownBlock] at hk; omega
                obtain ⟨V1, hW⟩ : ∃ V, V0.alloc (.cells #[] 68) = V := ⟨_, rfl⟩
                rw [hW] at c1 y1
                have HE := Lib.hid hW
                have K1 := Lib.hid (And.intro (K0.out.1.trans (Fz.of_below c1)) (And.intro (below_on K0.out.2.1 c1) (And.intro (And.intro y1 nb) (And.intro True.intro True.intro))))
                clear c1 y1 hW nb
                go_wp2_with fail
                rw [HE.out]
                refine ⟨⟨⟨_, K1.out.1⟩, rfl⟩, ?_⟩
                refine wpFreeM_step [3, 5] (by kernel_rfl) ⟨?_, ?_, trivial⟩
                ·
                  refine wpOp_of_list rfl ?_
                  refine wpList_appRu rfl (.tmp 51) (.tmp 53) rfl W5.heap.size _ [] t.rs rfl K1.out.2.2.1.1 B3 d3 (H9.out.2.1.below (K1.out.2.1.mono (by have := HP.out.1.size; have := H9.out.1.2.2.2.1.size; omega))) H3.out.2.2.2.2 m HH.out.2.2.2.2.2.2 rfl (by rw [HH.out.2.2.2.2.2.2]; simp; omega) (by have := HP.out.1.size; have := H9.out.1.2.2.2.1.size; have := K1.out.2.1.size; omega) ?_
                  intro vy V2 oy gy bby vyb
                  have fz := fz_grown K1.out.1 gy K1.out.2.2.1.2
                  have bz := below_grown2 K1.out.2.1 gy K1.out.2.2.1.2
                  obtain ⟨A2, c2, rfl, _⟩ := oy.full (by have := HP.out.1.size; have := H9.out.1.2.2.2.1.size; have := bz.size; omega)
                  simp only [List.nil_append, HH.out.2.2.2.2.2.2] at oy gy vyb ⊢
                  have sz := K1.out.2.1.size
                  have nb : ∀ k, (Value.slice A2 m c2).ownBlock = some k → wk.heap.size ≤ k := fun k hk => (vyb k hk).elim (fun h => K1.out.2.2.1.2 k h) (fun h => by omega)
                  have K2 := Lib.hid (And.intro fz (And.intro bz (And.intro (And.intro oy nb) (And.intro True.intro True.intro))))
                  clear fz bz oy gy bby vyb nb
                  go_wp2_with fail
                  refine ⟨⟨⟨_, K2.out.1⟩, rfl⟩, ?_⟩
                  refine wpFreeM_step [5] (by kernel_rfl) ⟨?_, trivial⟩
                  refine wpOp_of_list rfl ?_
                  have c1 := below_new V2 (.cells #[.int .i64 9, .int .i64 0, .slice none 0 0, .int .i64 9, .int .i64 0, .slice none 0 0, .bool br] 68)
                  have sz := K2.out.2.1.size
                  have y1 := cells_new V2 #[.int .i64 9, .int .i64 0, .slice none 0 0, .int .i64 9, .int .i64 0, .slice none 0 0, .bool br] 68
                  have ne : ∀ k, (Value.slice A2 m c2).ownBlock = some k → k ≠ V2.heap.size := fun k hk => by have := own_lt K2.out.2.2.1.1 hk; omega
                  obtain ⟨V3, hW⟩ : ∃ V, V2.alloc (.cells #[.int .i64 9, .int .i64 0, .slice none 0 0, .int .i64 9, .int .i64 0, .slice none 0 0, .bool br] 68) = V := ⟨_, rfl⟩
                  rw [hW] at c1 y1
                  have HE := Lib.hid hW
                  have K3 := Lib.hid (And.intro (K2.out.1.trans (Fz.of_below c1)) (And.intro (below_on K2.out.2.1 c1) (And.intro (And.intro (K2.out.2.2.1.1.below c1 (by have := HP.out.1.size; have := H9.out.1.2.2.2.1.size; have := K2.out.2.1.size; omega)) K2.out.2.2.1.2) (And.intro y1 ne))))
                  clear c1 y1 hW ne
                  go_wp2_with fail
                  rw [HE.out]
                  refine ⟨⟨⟨_, K3.out.1⟩, rfl⟩, ?_⟩
                  refine wpFreeM_step [6] (by kernel_rfl) ⟨?_, trivial⟩
                  refine wpOp_of_list rfl ?_
                  refine wpList_appAlw rfl (.tmp 54) (.tmp 56) rfl W5.heap.size _ t.rs br rfl K3.out.2.2.1.1 _ K3.out.2.2.2.1 rfl (by rw [HH.out.2.2.2.2.2.2]; omega) (by have := HP.out.1.size; have := H9.out.1.2.2.2.1.size; have := K3.out.2.1.size; omega) ?_
                  intro vy V4 oy gy bby vyb
                  have fz := fz_grown K3.out.1 gy K3.out.2.2.1.2
                  have bz := below_grown2 K3.out.2.1 gy K3.out.2.2.1.2
                  obtain ⟨A4, c4, rfl, _⟩ := oy.full (by have := HP.out.1.size; have := H9.out.1.2.2.2.1.size; have := bz.size; omega)
                  simp only [List.length_append, List.length_cons, List.length_nil, HH.out.2.2.2.2.2.2] at oy gy vyb ⊢
                  have sz := K3.out.2.1.size
                  have nb : ∀ k, (Value.slice A4 (m + 1) c4).ownBlock = some k → wk.heap.size ≤ k := fun k hk => (vyb k hk).elim (fun h => K3.out.2.2.1.2 k h) (fun h => by omega)
                  have K4 := Lib.hid (And.intro fz (And.intro bz (And.intro (And.intro oy nb) (And.intro True.intro True.intro))))
                  clear fz bz oy gy bby vyb nb
                  go_wp2_with fail
                  refine ⟨⟨⟨_, K4.out.1⟩, rfl⟩, ?_⟩
                  refine wpFreeM_step [7] (by kernel_rfl) ⟨?_, trivial⟩
                  refine wpOp_of_list rfl ?_
                  go_wp2_with fail
                  refine ⟨⟨⟨_, K4.out.1⟩, rfl⟩, ?_⟩
                  refine wpFreeM_step [8] (by kernel_rfl) ⟨?_, trivial⟩
                  refine wpOp_of_list rfl ?_
                  have c2 := H9.out.1.2.2.1.on K4.out.2.1
                  obtain ⟨f0, f1, f2⟩ := froz3 c2
                  obtain ⟨e0, e1, e2⟩ := cell3 c2
                  go_wp2_with fail
                  have fz := Fz.set (X := fun z => z = G2) V4 G2 2 (.slice A4 (m + 1) c4) rfl
                  have hlt := H9.out.1.2.2.1.lt
                  have KE := Lib.hid (And.intro (K4.out.1.trans fz) (And.intro (c2.set 2 (.slice A4 (m + 1) c4)) (K4.out.2.2.1.1.fz fz (by have := HP.out.1.size; have := H9.out.1.2.2.2.1.size; have := K4.out.2.1.size; omega) (fun k e => by rw [e]; exact HP.out.2.2.1) (fun k hk e => by have := K4.out.2.2.1.2 k hk; omega))))
                  clear fz c2 f0 f1 f2 e0 e1 e2
                  refine ⟨⟨⟨_, KE.out.1⟩, rfl⟩, ?_⟩
                  unfold wpFreeM
                  go_wp2_with fail
                  go_meet
                  exact ⟨_, _, rfl, KE.out.2.1, KE.out.2.2, KE.out.1⟩
                ·
                  refine wpOp_of_list rfl ?_
                  have c1 := below_new V1 (.cells #[.int .i64 9, .int .i64 0, .slice none 0 0, .int .i64 9, .int .i64 0, .slice none 0 0, .bool br] 68)
                  have sz := K1.out.2.1.size
                  have y1 := cells_new V1 #[.int .i64 9, .int .i64 0, .slice none 0 0, .int .i64 9, .int .i64 0, .slice none 0 0, .bool br] 68
                  have ne : ∀ k, (Value.slice (some ⟨V0.heap.size, 0, none⟩) 0 0).ownBlock = some k → k ≠ V1.heap.size := fun k hk => by have := own_lt K1.out.2.2.1.1 hk; omega
                  obtain ⟨V7, hW⟩ : ∃ V, V1.alloc (.cells #[.int .i64 9, .int .i64 0, .slice none 0 0, .int .i64 9, .int .i64 0, .slice none 0 0, .bool br] 68) = V := ⟨_, rfl⟩
                  rw [hW] at c1 y1
                  have HE := Lib.hid hW
                  have K7 := Lib.hid (And.intro (K1.out.1.trans (Fz.of_below c1)) (And.intro (below_on K1.out.2.1 c1) (And.intro (And.intro (K1.out.2.2.1.1.below c1 (by have := HP.out.1.size; have := H9.out.1.2.2.2.1.size; have := K1.out.2.1.size; omega)) K1.out.2.2.1.2) (And.intro y1 ne))))
                  clear c1 y1 hW ne
                  go_wp2_with fail
                  rw [HE.out]
                  refine ⟨⟨⟨_, K7.out.1⟩, rfl⟩, ?_⟩
                  refine wpFreeM_step [3] (by kernel_rfl) ⟨?_, trivial⟩
                  refine wpOp_of_list rfl ?_
                  refine wpList_appRu rfl (.tmp 51) (.tmp 53) rfl W5.heap.size _ [] t.rs rfl K7.out.2.2.1.1 B3 d3 (H9.out.2.1.below (K7.out.2.1.mono (by have := HP.out.1.size; have := H9.out.1.2.2.2.1.size; omega))) H3.out.2.2.2.2 m HH.out.2.2.2.2.2.2 rfl (by rw [HH.out.2.2.2.2.2.2]; simp; omega) (by have := HP.out.1.size; have := H9.out.1.2.2.2.1.size; have := K7.out.2.1.size; omega) ?_
                  intro vy V8 oy gy bby vyb
                  have fz := fz_grown K7.out.1 gy K7.out.2.2.1.2
                  have bz := below_grown2 K7.out.2.1 gy K7.out.2.2.1.2
                  obtain ⟨A8, c8, rfl, _⟩ := oy.full (by have := HP.out.1.size; have := H9.out.1.2.2.2.1.size; have := bz.size; omega)
                  simp only [List.nil_append, HH.out.2.2.2.2.2.2] at oy gy vyb ⊢
                  have sz := K7.out.2.1.size
                  have nb : ∀ k, (Value.slice A8 m c8).ownBlock = some k → wk.heap.size ≤ k := fun k hk => (vyb k hk).elim (fun h => K7.out.2.2.1.2 k h) (fun h => by omega)
                  have lg := K7.out.2.2.2.1.lt
                  have cg : Cells V8 V1.heap.size 68 (alw7 br) := (gy.block _ lg (fun e => K7.out.2.2.2.2 _ e.symm rfl)).trans K7.out.2.2.2.1
                  have ne : ∀ k, (Value.slice A8 m c8).ownBlock = some k → k ≠ V1.heap.size := fun k hk => (vyb k hk).elim (fun h => K7.out.2.2.2.2 k h) (fun h => by omega)
                  have K8 := Lib.hid (And.intro fz (And.intro bz (And.intro (And.intro oy nb) (And.intro cg ne))))
                  clear fz bz oy gy bby vyb nb cg ne
                  go_wp2_with fail
                  refine ⟨⟨⟨_, K8.out.1⟩, rfl⟩, ?_⟩
                  refine wpFreeM_step [6] (by kernel_rfl) ⟨?_, trivial⟩
                  refine wpOp_of_list rfl ?_
                  refine wpList_appAlw rfl (.tmp 54) (.tmp 56) rfl W5.heap.size _ t.rs br rfl K8.out.2.2.1.1 _ K8.out.2.2.2.1 rfl (by rw [HH.out.2.2.2.2.2.2]; omega) (by have := HP.out.1.size; have := H9.out.1.2.2.2.1.size; have := K8.out.2.1.size; omega) ?_
                  intro vy V9 oy gy bby vyb
                  have fz := fz_grown K8.out.1 gy K8.out.2.2.1.2
                  have bz := below_grown2 K8.out.2.1 gy K8.out.2.2.1.2
                  obtain ⟨A9, c9, rfl, _⟩ := oy.full (by have := HP.out.1.size; have := H9.out.1.2.2.2.1.size; have := bz.size; omega)
                  simp only [List.length_append, List.length_cons, List.length_nil, HH.out.2.2.2.2.2.2] at oy gy vyb ⊢
                  have sz := K8.out.2.1.size
                  have nb : ∀ k, (Value.slice A9 (m + 1) c9).ownBlock = some k → wk.heap.size ≤ k := fun k hk => (vyb k hk).elim (fun h => K8.out.2.2.1.2 k h) (fun h => by omega)
                  have K9 := Lib.hid (And.intro fz (And.intro bz (And.intro (And.intro oy nb) (And.intro True.intro True.intro))))
                  clear fz bz oy gy bby vyb nb
                  go_wp2_with fail
                  refine ⟨⟨⟨_, K9.out.1⟩, rfl⟩, ?_⟩
                  refine wpFreeM_step [7] (by kernel_rfl) ⟨?_, trivial⟩
                  refine wpOp_of_list rfl ?_
                  go_wp2_with fail
                  refine ⟨⟨⟨_, K9.out.1⟩, rfl⟩, ?_⟩
                  refine wpFreeM_step [8] (by kernel_rfl) ⟨?_, trivial⟩
                  refine wpOp_of_list rfl ?_
                  have c2 := H9.out.1.2.2.1.on K9.out.2.1
                  obtain ⟨f0, f1, f2⟩ := froz3 c2
                  obtain ⟨e0, e1, e2⟩ := cell3 c2
                  go_wp2_with fail
                  have fz := Fz.set (X := fun z => z = G2) V9 G2 2 (.slice A9 (m + 1) c9) rfl
                  have hlt := H9.out.1.2.2.1.lt
                  have KE := Lib.hid (And.intro (K9.out.1.trans fz) (And.intro (c2.set 2 (.slice A9 (m + 1) c9)) (K9.out.2.2.1.1.fz fz (by have := HP.out.1.size; have := H9.out.1.2.2.2.1.size; have := K9.out.2.1.size; omega) (fun k e => by rw [e]; exact HP.out.2.2.1) (fun k hk e => by have := K9.out.2.2.1.2 k hk; omega))))
                  clear fz c2 f0 f1 f2 e0 e1 e2
                  refine ⟨⟨⟨_, KE.out.1⟩, rfl⟩, ?_⟩
                  unfold wpFreeM
                  go_wp2_with fail
                  go_meet
                  exact ⟨_, _, rfl, KE.out.2.1, KE.out.2.2, KE.out.1⟩
              ·
                refine wpOp_of_list rfl ?_
                have c1 := below_new V0 (.cells #[.int .i64 9, .int .i64 0, .slice none 0 0, .int .i64 9, .int .i64 0, .slice none 0 0, .bool br] 68)
                have sz := K0.out.2.1.size
                have y1 := cells_new V0 #[.int .i64 9, .int .i64 0, .slice none 0 0, .int .i64 9, .int .i64 0, .slice none 0 0, .bool br] 68
                obtain ⟨V12, hW⟩ : ∃ V, V0.alloc (.cells #[.int .i64 9, .int .i64 0, .slice none 0 0, .int .i64 9, .int .i64 0, .slice none 0 0, .bool br] 68) = V := ⟨_, rfl⟩
                rw [hW] at c1 y1
                have HE := Lib.hid hW
                have K12 := Lib.hid (And.intro (K0.out.1.trans (Fz.of_below c1)) (And.intro (below_on K0.out.2.1 c1) (And.intro True.intro (And.intro y1 True.intro))))
                clear c1 y1 hW
                go_wp2_with fail
                rw [HE.out]
                refine ⟨⟨⟨_, K12.out.1⟩, rfl⟩, ?_⟩
                refine wpFreeM_step [0] (by kernel_rfl) ⟨?_, trivial⟩
                refine wpOp_of_list rfl ?_
                have c1 := below_new V12 (.cells #[] 68)
                have sz := K12.out.2.1.size
                have y1 := ruOwn_empty V12 W5.heap.size (by have := HP.out.1.size; have := H9.out.1.2.2.2.1.size; have := K12.out.2.1.size; omega)
                have nb : ∀ k, (Value.slice (some ⟨V12.heap.size, 0, none⟩) 0 0).ownBlock = some k → wk.heap.size ≤ k := fun k hk => by simp [Value.ownBlock] at hk; omega
                have lg := K12.out.2.2.2.1.lt
                have ne : ∀ k, (Value.slice (some ⟨V12.heap.size, 0, none⟩) 0 0).ownBlock = some k → k ≠ V0.heap.size := fun k hk => by simp [Value.ownBlock] at hk; omega
                obtain ⟨V13, hW⟩ : ∃ V, V12.alloc (.cells #[] 68) = V := ⟨_, rfl⟩
                rw [hW] at c1 y1
                have HE := Lib.hid hW
                have K13 := Lib.hid (And.intro (K12.out.1.trans (Fz.of_below c1)) (And.intro (below_on K12.out.2.1 c1) (And.intro (And.intro y1 nb) (And.intro (K12.out.2.2.2.1.on c1) ne))))
                clear c1 y1 hW nb ne
                go_wp2_with fail
                rw [HE.out]
                refine ⟨⟨⟨_, K13.out.1⟩, rfl⟩, ?_⟩
                refine wpFreeM_step [3] (by kernel_rfl) ⟨?_, trivial⟩
                refine wpOp_of_list rfl ?_
                refine wpList_appRu rfl (.tmp 51) (.tmp 53) rfl W5.heap.size _ [] t.rs rfl K13.out.2.2.1.1 B3 d3 (H9.out.2.1.below (K13.out.2.1.mono (by have := HP.out.1.size; have := H9.out.1.2.2.2.1.size; omega))) H3.out.2.2.2.2 m HH.out.2.2.2.2.2.2 rfl (by rw [HH.out.2.2.2.2.2.2]; simp; omega) (by have := HP.out.1.size; have := H9.out.1.2.2.2.1.size; have := K13.out.2.1.size; omega) ?_
                intro vy V14 oy gy bby vyb
                have fz := fz_grown K13.out.1 gy K13.out.2.2.1.2
                have bz := below_grown2 K13.out.2.1 gy K13.out.2.2.1.2
                obtain ⟨A14, c14, rfl, _⟩ := oy.full (by have := HP.out.1.size; have := H9.out.1.2.2.2.1.size; have := bz.size; omega)
                simp only [List.nil_append, HH.out.2.2.2.2.2.2] at oy gy vyb ⊢
                have sz := K13.out.2.1.size
                have nb : ∀ k, (Value.slice A14 m c14).ownBlock = some k → wk.heap.size ≤ k := fun k hk => (vyb k hk).elim (fun h => K13.out.2.2.1.2 k h) (fun h => by omega)
                have lg := K13.out.2.2.2.1.lt
                have cg : Cells V14 V0.heap.size 68 (alw7 br) := (gy.block _ lg (fun e => K13.out.2.2.2.2 _ e.symm rfl)).trans K13.out.2.2.2.1
                have ne : ∀ k, (Value.slice A14 m c14).ownBlock = some k → k ≠ V0.heap.size := fun k hk => (vyb k hk).elim (fun h => K13.out.2.2.2.2 k h) (fun h => by omega)
                have K14 := Lib.hid (And.intro fz (And.intro bz (And.intro (And.intro oy nb) (And.intro cg ne))))
                clear fz bz oy gy bby vyb nb cg ne
                go_wp2_with fail
                refine ⟨⟨⟨_, K14.out.1⟩, rfl⟩, ?_⟩
                refine wpFreeM_step [6] (by kernel_rfl) ⟨?_, trivial⟩
                refine wpOp_of_list rfl ?_
                refine wpList_appAlw rfl (.tmp 54) (.tmp 56) rfl W5.heap.size _ t.rs br rfl K14.out.2.2.1.1 _ K14.out.2.2.2.1 rfl (by rw [HH.out.2.2.2.2.2.2]; omega) (by have := HP.out.1.size; have := H9.out.1.2.2.2.1.size; have := K14.out.2.1.size; omega) ?_
                intro vy V15 oy gy bby vyb
                have fz := fz_grown K14.out.1 gy K14.out.2.2.1.2
                have bz := below_grown2 K14.out.2.1 gy K14.out.2.2.1.2
                obtain ⟨A15, c15, rfl, _⟩ := oy.full (by have := HP.out.1.size; have := H9.out.1.2.2.2.1.size; have := bz.size; omega)
                simp only [List.length_append, List.length_cons, List.length_nil, HH.out.2.2.2.2.2.2] at oy gy vyb ⊢
                have sz := K14.out.2.1.size
                have nb : ∀ k, (Value.slice A15 (m + 1) c15).ownBlock = some k → wk.heap.size ≤ k := fun k hk => (vyb k hk).elim (fun h => K14.out.2.2.1.2 k h) (fun h => by omega)
                have K15 := Lib.hid (And.intro fz (And.intro bz (And.intro (And.intro oy nb) (And.intro True.intro True.intro))))
                clear fz bz oy gy bby vyb nb
                go_wp2_with fail
                refine ⟨⟨⟨_, K15.out.1⟩, rfl⟩, ?_⟩
                refine wpFreeM_step [7] (by kernel_rfl) ⟨?_, trivial⟩
                refine wpOp_of_list rfl ?_
                go_wp2_with fail
                refine ⟨⟨⟨_, K15.out.1⟩, rfl⟩, ?_⟩
                refine wpFreeM_step [8] (by kernel_rfl) ⟨?_, trivial⟩
                refine wpOp_of_list rfl ?_
                have c2 := H9.out.1.2.2.1.on K15.out.2.1
                obtain ⟨f0, f1, f2⟩ := froz3 c2
                obtain ⟨e0, e1, e2⟩ := cell3 c2
                go_wp2_with fail
                have fz := Fz.set (X := fun z => z = G2) V15 G2 2 (.slice A15 (m + 1) c15) rfl
                have hlt := H9.out.1.2.2.1.lt
                have KE := Lib.hid (And.intro (K15.out.1.trans fz) (And.intro (c2.set 2 (.slice A15 (m + 1) c15)) (K15.out.2.2.1.1.fz fz (by have := HP.out.1.size; have := H9.out.1.2.2.2.1.size; have := K15.out.2.1.size; omega) (fun k e => by rw [e]; exact HP.out.2.2.1) (fun k hk e => by have := K15.out.2.2.1.2 k hk; omega))))
                clear fz c2 f0 f1 f2 e0 e1 e2
                refine ⟨⟨⟨_, KE.out.1⟩, rfl⟩, ?_⟩
                unfold wpFreeM
                go_wp2_with fail
                go_meet
                exact ⟨_, _, rfl, KE.out.2.1, KE.out.2.2, KE.out.1⟩
            case rest =>
              obtain ⟨Az, cz, rfl, hZ⟩ := hcut
              have sB : W5.heap.size ≤ wk.heap.size := H9.out.1.2.2.2.1.size
              have bk : Below W5.heap.size W5 wc := H9.out.1.2.2.2.1.trans (hZ.2.2.below sB (fun k hk e => by have := HP.out.2.2.1; omega))
              have bwc := below_on H5.out.1 bk
              have x7 := hZ.2.2.cells (fun e => by have := HP.out.2.2.1; have := H5.out.2.2.2.2.2.2; have := H5.out.2.2.2.1.lt; omega) H9.out.2.2.1
              have xy := hZ.2.2.cells (fun e => HP.out.2.2.2 e) H9.out.1.1
              have ry := H9.out.1.2.1.fz hZ.2.2 sB (fun k e => by rw [e]; exact HP.out.2.2.1) (fun k hk e => H9.out.1.2.2.2.2 k hk e)
              have tx := H5.out.2.1.on bk
              have ty : TxV wc wc.heap.size ⟨t.ig, t.kp, alwR br :: t.rs⟩ (.agg #[.slice B1 t.ig.length d1, .slice B2 t.kp.length d2, .slice Ay (m + 1) cy]) := by
                obtain ⟨A', c', e, hh⟩ := ry.full bk.size
                obtain ⟨_, _, _, _, _, _, e2, i1', i2', _⟩ := tx
                simp only [Value.slice.injEq] at e
                obtain ⟨rfl, _, rfl⟩ := e
                simp only [Value.agg.injEq] at e2
                have e3 := congrArg Array.toList e2
                simp at e3
                obtain ⟨⟨rfl, rfl⟩, ⟨rfl, rfl⟩, _⟩ := e3
                exact ⟨_, _, _, _, _, _, by rw [List.length_cons, HH.out.2.2.2.2.2.2], i1', i2', hh⟩
              have tz : TxV wc wc.heap.size ⟨t.ig, t.kp, t.rs ++ [alwR br]⟩ (.agg #[.slice B1 t.ig.length d1, .slice B2 t.kp.length d2, .slice Az (m + 1) cz]) := by
                obtain ⟨A', c', e, hh⟩ := hZ.2.1.full bk.size
                obtain ⟨_, _, _, _, _, _, e2, i1', i2', _⟩ := tx
                simp only [Value.slice.injEq] at e
                obtain ⟨rfl, _, rfl⟩ := e
                simp only [Value.agg.injEq] at e2
                have e3 := congrArg Array.toList e2
                simp at e3
                obtain ⟨⟨rfl, rfl⟩, ⟨rfl, rfl⟩, _⟩ := e3
                exact ⟨_, _, _, _, _, _, by rw [List.length_append, HH.out.2.2.2.2.2.2]; rfl, i1', i2', hh⟩
              have hids := HH.out.2.1.on bwc
              have x70 : ∀ p : Later (fun _ => False) wc, p.W.cell? ⟨w3.heap.size, 0, none⟩ = some (.slice B1 t.ig.length d1) := fun p => cell_later (x7.cell 0) (fun hf => hf) p
              have x71 : ∀ p : Later (fun _ => False) wc, p.W.cell? ⟨w3.heap.size, 1, none⟩ = some (.slice B2 t.kp.length d2) := fun p => cell_later (x7.cell 1) (fun hf => hf) p
              have x72 : ∀ p : Later (fun _ => False) wc, p.W.cell? ⟨w3.heap.size, 2, none⟩ = some (.slice B3 m d3) := fun p => cell_later (x7.cell 2) (fun hf => hf) p
              have xy0 : ∀ p : Later (fun _ => False) wc, p.W.cell? ⟨G1, 0, none⟩ = some (.slice B1 t.ig.length d1) := fun p => cell_later (xy.cell 0) (fun hf => hf) p
              have xy1 : ∀ p : Later (fun _ => False) wc, p.W.cell? ⟨G1, 1, none⟩ = some (.slice B2 t.kp.length d2) := fun p => cell_later (xy.cell 1) (fun hf => hf) p
              have xy2 : ∀ p : Later (fun _ => False) wc, p.W.cell? ⟨G1, 2, none⟩ = some (.slice Ay (m + 1) cy) := fun p => cell_later (xy.cell 2) (fun hf => hf) p
              have zz0 : ∀ p : Later (fun _ => False) wc, p.W.cell? ⟨G2, 0, none⟩ = some (.slice B1 t.ig.length d1) := fun p => cell_later (hZ.1.cell 0) (fun hf => hf) p
              have zz1 : ∀ p : Later (fun _ => False) wc, p.W.cell? ⟨G2, 1, none⟩ = some (.slice B2 t.kp.length d2) := fun p => cell_later (hZ.1.cell 1) (fun hf => hf) p
              have zz2 : ∀ p : Later (fun _ => False) wc, p.W.cell? ⟨G2, 2, none⟩ = some (.slice Az (m + 1) cz) := fun p => cell_later (hZ.1.cell 2) (fun hf => hf) p
              have H10 := Lib.hid (And.intro bwc (And.intro tx (And.intro ty (And.intro tz (And.intro hids x7)))))
              clear hZ bk bwc x7 xy ry tx ty tz hids sB q0 g0 g1 g2 g3 g4 g5 g6
              go_upto_region 10 with fail
              refine wp_region_mix0 (fun i => if i = 2 ∨ i = 5 ∨ i = 8 ∨ 11 ≤ i then 2 else 0) [0, 1, 3, 4, 6, 7, 9, 10] [2, 5, 8, 11, 12, 13, 14, 15] (fun w' => ∃ p : Later (fun _ => False) wc, w' = p.W) (by kernel_rfl) (by kernel_rfl) ⟨⟨_, Fz.drew wc⟩, rfl⟩ ?_
              simp only [opsAt, List.filterMap_cons, List.filterMap_nil, List.getElem?_toArray, List.getElem?_cons_zero, List.getElem?_cons_succ]
              change wpQuiet _ _ _ _ [_, _, _, _, _, _, _, _] _
              repeat (go_big_quiet_step (fail))
              refine wpQuiet_nil ?_
              clear x70 x71 x72 xy0 xy1 xy2 zz0 zz1 zz2
              have zd := Fz.drew (X := fun _ => False) wc
              have bd := zd.below (B := wc.heap.size) (Nat.le_refl _) (fun _ _ h => h)
              obtain ⟨W9, hW9⟩ : ∃ V, ({ wc with drawn := wc.drawn + 1 } : World) = V := ⟨_, rfl⟩
              rw [hW9] at zd bd ⊢
              clear hW9
              have n900 : ids.length ≤ 900 := by rw [HH.out.2.2.1]; have := H14.out.1; omega
              have N900 := Lib.hid n900
              have I9 := Lib.hid (And.intro zd (And.intro bd True.intro))
              clear zd bd n900
              have C0 := hidden_any t _ ids A cap W9 (H10.out.2.1.on I9.out.2.1) (H10.out.2.2.2.2.1.on I9.out.2.1) N900.out
              rw [HH.out.2.2.1] at C0
              refine wpSeqM_step rfl ?_
              go_wp2_with fail
              refine C0.mono ?_
              rintro r U0 ⟨u0, rfl, o0, b0⟩
              clear C0
              obtain ⟨Q0, e0, rfl⟩ := own_formN o0
              have J0 := Lib.hid (And.intro (I9.out.1.trans (Fz.of_below b0)) (And.intro (below_on I9.out.2.1 b0) (And.intro o0 True.intro)))
              clear o0 b0
              go_wp2_with fail
              refine ⟨⟨⟨_, J0.out.1⟩, rfl⟩, ?_⟩
              have C1 := BreaksG_any mtR matCon t _ ids A cap U0 (H10.out.2.1.on J0.out.2.1) (H10.out.2.2.2.2.1.on J0.out.2.1) N900.out
              rw [HH.out.2.2.1] at C1
              refine wpSeqM_step rfl ?_
              go_wp2_with fail
              refine C1.mono ?_
              rintro r U1 ⟨u1, rfl, o1, b1⟩
              clear C1
              have l1 := breaksR_len mtR t ids
              rw [HH.out.2.2.1] at l1
              rw [l1] at o1
              obtain ⟨Q1, e1, rfl⟩ := own_formN o1
              have J1 := Lib.hid (And.intro (J0.out.1.trans (Fz.of_below b1)) (And.intro (below_on J0.out.2.1 b1) (And.intro o1 True.intro)))
              have P0_1 := ownsRow_below J0.out.2.2.1 b1
              have P0_1 := Lib.hid P0_1
              clear o1 b1 l1
              go_wp2_with fail
              refine ⟨⟨⟨_, J1.out.1⟩, rfl⟩, ?_⟩
              have C2 := BreaksG_any mtR matCon ⟨t.ig, t.kp, alwR br :: t.rs⟩ _ ids A cap U1 (H10.out.2.2.1.on J1.out.2.1) (H10.out.2.2.2.2.1.on J1.out.2.1) N900.out
              rw [HH.out.2.2.1] at C2
              refine wpSeqM_step rfl ?_
              go_wp2_with fail
              refine C2.mono ?_
              rintro r U2 ⟨u2, rfl, o2, b2⟩
              clear C2
              have l2 := breaksR_len mtR ⟨t.ig, t.kp, alwR br :: t.rs⟩ ids
              rw [HH.out.2.2.1] at l2
              rw [l2] at o2
              obtain ⟨Q2, e2, rfl⟩ := own_formN o2
              have J2 := Lib.hid (And.intro (J1.out.1.trans (Fz.of_below b2)) (And.intro (below_on J1.out.2.1 b2) (And.intro o2 True.intro)))
              have P0_2 := ownsRow_below P0_1.out b2
              have P1_2 := ownsRow_below J1.out.2.2.1 b2
              have P0_2 := Lib.hid P0_2
              have P1_2 := Lib.hid P1_2
              clear o2 b2 l2
              clear P0_1
              go_wp2_with fail
              refine ⟨⟨⟨_, J2.out.1⟩, rfl⟩, ?_⟩
              have C3 := BreaksG_any mtR matCon ⟨t.ig, t.kp, t.rs ++ [alwR br]⟩ _ ids A cap U2 (H10.out.2.2.2.1.on J2.out.2.1) (H10.out.2.2.2.2.1.on J2.out.2.1) N900.out
              rw [HH.out.2.2.1] at C3
              refine wpSeqM_step rfl ?_
              go_wp2_with fail
              refine C3.mono ?_
              rintro r U3 ⟨u3, rfl, o3, b3⟩
              clear C3
              have l3 := breaksR_len mtR ⟨t.ig, t.kp, t.rs ++ [alwR br]⟩ ids
              rw [HH.out.2.2.1] at l3
              rw [l3] at o3
              obtain ⟨Q3, e3, rfl⟩ := own_formN o3
              have J3 := Lib.hid (And.intro (J2.out.1.trans (Fz.of_below b3)) (And.intro (below_on J2.out.2.1 b3) (And.intro o3 True.intro)))
              have P0_3 := ownsRow_below P0_2.out b3
              have P1_3 := ownsRow_below P1_2.out b3
              have P2_3 := ownsRow_below J2.out.2.2.1 b3
              have P0_3 := Lib.hid P0_3
              have P1_3 := Lib.hid P1_3
              have P2_3 := Lib.hid P2_3
              clear o3 b3 l3
              clear P0_2
              clear P1_2
              go_wp2_with fail
              refine ⟨⟨⟨_, J3.out.1⟩, rfl⟩, ?_⟩
              iterate 4 (refine wpSeqM_step rfl ?_; go_wp2_with fail; refine ⟨⟨⟨_, J3.out.1⟩, rfl⟩, ?_⟩)
              unfold wpSeqM
              go_wp2_with fail
              have kt : knownT t = t := by unfold knownT; rw [if_pos H5.out.2.2.2.2.1]
              have ky : knownT ⟨t.ig, t.kp, alwR br :: t.rs⟩ = ⟨t.ig, t.kp, alwR br :: t.rs⟩ := by unfold knownT; rw [if_pos (alw_front br H5.out.2.2.2.2.1 (by rw [HH.out.2.2.2.2.2.2]; exact H14.out.2))]
              have kz : knownT ⟨t.ig, t.kp, t.rs ++ [alwR br]⟩ = ⟨t.ig, t.kp, t.rs ++ [alwR br]⟩ := by unfold knownT; rw [if_pos (alw_back br H5.out.2.2.2.2.1 (by rw [HH.out.2.2.2.2.2.2]; exact H14.out.2))]
              have HK := Lib.hid (And.intro kt (And.intro ky kz))
              clear kt ky kz
              go_loopw [15] (fun i wr => ∃ k : Nat, i = .int .i64 (k : Int) ∧ 1 ≤ k ∧ k ≤ 15 ∧ Below U3.heap.size U3 wr) (fun i _ => n - (RowKit.intOf i).toNat)
              case atStart => exact ⟨1, rfl, Nat.le_refl _, by omega, Below.refl _ _⟩
              case round =>
                obtain ⟨k, rfl, hk1, hk15, hb⟩ := hrel
                have n14 := H14.out.1
                have ik : (k : Int) ≤ 100000 := by omega
                by_cases hlt : k < n
                · have i1 : (k : Int) < (n : Int) := by omega
                  have rI := rdI t.ig t.kp ids
                  obtain ⟨hd, hhd⟩ : ∃ h, (rdF t.ig t.kp ids).1[k]? = some h := ⟨_, List.getElem?_eq_getElem (by rw [rI.h, HH.out.2.2.1]; exact hlt)⟩
                  have rA := brk_at mtR t ids (k := k) (by rw [HH.out.2.2.1]; exact hlt)
                  have rB := brk_at mtR ⟨t.ig, t.kp, alwR br :: t.rs⟩ ids (k := k) (by rw [HH.out.2.2.1]; exact hlt)
                  have rC := brk_at mtR ⟨t.ig, t.kp, t.rs ++ [alwR br]⟩ ids (k := k) (by rw [HH.out.2.2.1]; exact hlt)
                  rw [HK.out.1] at rA
                  rw [HK.out.2.1] at rB
                  rw [HK.out.2.2] at rC
                  unfold allB at rA rB rC
                  rw [if_neg (by omega)] at rA rB rC
                  obtain ⟨T0, c0, e00, _, r0⟩ := own_any (ownsRow_below P0_3.out hb)
                  obtain ⟨g0, rfl, _, r0⟩ := r0 (by omega)
                  simp only [Value.slice.injEq] at e00
                  obtain ⟨rfl, _, rfl⟩ := e00
                  rw [HK.out.1] at r0
                  have z0 := r0 k _ (bL_at hhd)
                  obtain ⟨T1, c1', e01, _, r1⟩ := own_any (ownsRow_below P1_3.out hb)
                  obtain ⟨g1, rfl, _, r1⟩ := r1 (by omega)
                  simp only [Value.slice.injEq] at e01
                  obtain ⟨rfl, _, rfl⟩ := e01
                  have z1 := r1 k _ (bL_at rA)
                  obtain ⟨T2, c2', e02, _, r2⟩ := own_any (ownsRow_below P2_3.out hb)
                  obtain ⟨g2, rfl, _, r2⟩ := r2 (by omega)
                  simp only [Value.slice.injEq] at e02
                  obtain ⟨rfl, _, rfl⟩ := e02
                  have z2 := r2 k _ (bL_at rB)
                  obtain ⟨T3, c3', e03, _, r3⟩ := own_any (ownsRow_below J3.out.2.2.1 hb)
                  obtain ⟨g3, rfl, _, r3⟩ := r3 (by omega)
                  simp only [Value.slice.injEq] at e03
                  obtain ⟨rfl, _, rfl⟩ := e03
                  have z3 := r3 k _ (bL_at rC)
                  have hb3 := below_on J3.out.2.1 hb
                  have hends : ∃ j : Nat, Value.int .i64 ((k : Int) + 1) = .int .i64 (j : Int) ∧ 1 ≤ j ∧ j ≤ 15 ∧ ∀ w', Below wr.heap.size wr w' → Below U3.heap.size U3 w' := ⟨k + 1, by simp, by omega, by omega, fun w' h => below_on hb h⟩
                  cases hd with
                  | true =>
                    have HE := Lib.hid (And.intro hb True.intro)
                    clear rI hhd rA rB rC r0 r1 r2 r3 z1 z2 z3 hb3 hends hb
                    go_wp2_with fail
                    go_roundw
                    case rel => exact ⟨k + 1, by go_num, by omega, by omega, HE.out.1⟩
                    case measure => simp [RowKit.intOf]; omega
                  | false =>
                    obtain ⟨fy, fg, fl⟩ := first_at t br ids (by omega : 0 < k) hhd
                    rw [fy] at z2
                    have CW := fun W' (h' : Below wr.heap.size wr W') => WhichG_any mtR matCon t _ ids A cap (k : Int) W' (H10.out.2.1.on (below_on hb3 h')) (H10.out.2.2.2.2.1.on (below_on hb3 h')) N900.out
                    rw [HK.out.1, HH.out.2.2.1] at CW
                    have xr := H10.out.2.2.2.2.2.on hb3
                    obtain ⟨w0, w1', w2'⟩ := cell3 xr
                    have v0 := cell_regrown w0
                    have v1 := cell_regrown w1'
                    have v2 := cell_regrown w2'
                    have v4 := cell_regrown z2
                    obtain ⟨X, hX⟩ : ∃ X, breakR mtR t ids k = X := ⟨_, rfl⟩
                    obtain ⟨Z, hZ⟩ : ∃ X, breakR mtR ⟨t.ig, t.kp, t.rs ++ [alwR br]⟩ ids k = X := ⟨_, rfl⟩
                    rw [hX] at z1 fg fl
                    rw [hZ] at z3 fg fl
                    obtain ⟨WW, hWW⟩ : ∃ X, whichR mtR t ids (k : Int) = X := ⟨_, rfl⟩
                    rw [hWW] at CW fg fl
                    have D : ∀ d os, Calls Try.prog 31 #[.agg #[.slice B1 t.ig.length d1, .slice B2 t.kp.length d2, .slice B3 m d3], .slice A n cap, .int .i64 (k : Int)] (grow (redrawn wr d) os) fun e w'' => e = .returned (.int .i64 WW) ∧ ∃ p : Regrown, w'' = grow (redrawn wr p.d) p.os := fun d os => Calls.regrown_of (CW _ (below_regrown wr d os))
                    have hbr : (br != br) = false := by simp
                    have HE := Lib.hid hb
                    clear rI hhd rA rB rC r0 r1 r2 r3 hb3 hends hb fy CW xr w0 w1' w2' z2 hX hZ hWW
                    by_cases hW : 0 ≤ WW
                    · have hXZ := fg hW
                      subst hXZ
                      have hxx : (Z != Z) = false := by simp
                      have iw : ¬ WW < 0 := by omega
                      have dw : decide (WW < 0) = false := decide_eq_false iw
                      have v5 := cell_regrown z1
                      have v6 := cell_regrown z3
                      clear fg fl z1 z3 hW
                      go_wp2_with fail
                      refine wp_region_quiet_below (by kernel_rfl) (by kernel_rfl) ?_
                      repeat (go_big_quiet_step (with_reducible exact D _ _))
                      refine wpQuiet_nil ?_
                      intro _ hw'
                      obtain ⟨⟨dq, osq⟩, hw''⟩ := hw'
                      subst hw''
                      have HB := Lib.hid (below_on HE.out (below_regrown wr dq osq))
                      clear D v0 v1 v2 v4 v5 v6
                      generalize grow (redrawn wr dq) osq = w8 at *
                      go_wp2_with fail
                      go_roundw
                      case rel => exact ⟨k + 1, by go_num, by omega, by omega, HB.out⟩
                      case measure => simp [RowKit.intOf]; omega
                    · have iw : WW < 0 := by omega
                      have iw2 : ¬ (0 : Int) ≤ WW := by omega
                      have dw : decide (WW < 0) = true := decide_eq_true iw
                      have dw2 : decide (0 ≤ WW) = false := decide_eq_false iw2
                      obtain ⟨rfl, rfl⟩ := fl iw
                      have v5 := cell_regrown z1
                      have v6 := cell_regrown z3
                      clear fg fl z1 z3 hW
                      cases Z
                      all_goals
                        go_wp2_with fail
                        refine wp_region_quiet_below (by kernel_rfl) (by kernel_rfl) ?_
                        repeat (go_big_quiet_step (with_reducible exact D _ _))
                        refine wpQuiet_nil ?_
                        intro _ hw'
                        obtain ⟨⟨dq, osq⟩, hw''⟩ := hw'
                        subst hw''
                        have HB := Lib.hid (below_on HE.out (below_regrown wr dq osq))
                        clear D v0 v1 v2 v4 v5 v6
                        generalize grow (redrawn wr dq) osq = w8 at *
                        go_wp2_with fail
                        go_roundw
                        case rel => exact ⟨k + 1, by go_num, by omega, by omega, HB.out⟩
                        case measure => simp [RowKit.intOf]; omega
                · have i1 : ¬ (k : Int) < (n : Int) := by omega
                  have HE := Lib.hid (below_on H10.out.1 (below_on J3.out.2.1 hb))
                  clear hb
                  go_wp2_with fail
                  go_ret
                  exact ⟨rfl, HE.out⟩
end Go.Proofs.Ytegkogadceodlaa

namespace Go.Proofs.Ytegkogadceodlaa
open Go.ChangeShapes Go.WideShapes Go.ChangeAt Go.RowKit Go.Shelf
open Go.Lib

theorem firstLaw (t : Tx) (v : Value) (ids : List Int) (A : Option Addr) (cap : Nat) (br : Bool) (w : World) (h : TxV w w.heap.size t v) (hi : IS w w.heap.size ids A cap) :
    Calls Try.prog 10 #[v, .slice A ids.length cap, .bool br] w fun e w' => e = .returned (.bool true) ∧ Below w.heap.size w w' := first_law awake_ok t v ids A cap br w h hi
set_option maxRecDepth 100000 in
theorem decideFirst_lifted (os : Os) (started : os.Started) (H : Type) (enc : TypeId × Value → H) :
    ReturnsInHanded {} Try.checked os 10 .any (Rows.decideFirstSpec.pre6 enc Try.prog Try.f10 Rows.decideFirstRow.domain false) (Rows.decideFirstSpec.post enc Try.prog Try.f10 false true false false) := by
  refine handed_shaped (C := Try.checked) own started (by kernel_rfl) Try.func10
    (ChangeSpec.witness6 (enc := enc) (C := Try.checked) false ⟨#[], #[.agg #[.slice none 0 0, .slice none 0 0, .slice none 0 0], .slice none 0 0, .bool false], []⟩ 9 (by kernel_rfl) (by kernel_rfl) (by kernel_rfl) (by kernel_rfl)) ?_
  intro W base args ds gs before hsh hval0 hW
  have hval : ∀ (j : Nat) t v, Try.f10.params[j]? = some t → args[j]? = some v → Value.okWide Try.prog W .any base t v := hval0
  have hW' := hW
  obtain ⟨p, q, hA0, hV, rfl, hfz, hnd⟩ := hW
  have hA : DataW.TrodAll enc Try.prog W 0 (fun _ => true) true Try.f10.params.toList args.toList ds p := hA0
  rw [Try.params10] at hA hval
  obtain ⟨v0, vs0, d0, ds0, p0, q0, hargs, rfl, rfl, h0, r0⟩ := trodAll_cons hA
  obtain ⟨v1, vs1, d1, ds1, p1, q1, rfl, rfl, rfl, h1, r1⟩ := trodAll_cons r0
  obtain ⟨v2, vs2, d2, ds2, p2, q2, rfl, rfl, rfl, h2, r2⟩ := trodAll_cons r1
  obtain ⟨rfl, rfl, rfl⟩ := trodAll_nil r2
  obtain rfl : args = #[v0, v1, v2] := by cases args; simp_all
  obtain ⟨rfl, rfl⟩ := trodVars_none hV
  have t0 := h0
  have lt0 : ∀ x ∈ p0, x.block < W.heap.size := by obtain ⟨m, hm⟩ := t0; exact DataW.trod_lt m _ _ _ hm
  have t1 := h1
  have lt1 : ∀ x ∈ p1, x.block < W.heap.size := by obtain ⟨m, hm⟩ := t1; exact DataW.trod_lt m _ _ _ hm
  obtain ⟨t, hT⟩ := tx_of_arg (hval 0 50 v0 rfl rfl) h0
  obtain ⟨ids, A1, cap1, rfl, hI⟩ := is_of_arg (hval 1 25 v1 rfl rfl) h1
  obtain ⟨a2, rfl, rfl, rfl⟩ := open_bool Try.underlying4 (hval 2 4 v2 rfl rfl) h2
  clear hA0 hval0
  refine (firstLaw t v0 ids A1 cap1 a2 W hT hI).mono fun e W' ⟨he, bel⟩ => ?_
  subst he
  exact ⟨_, rfl, _, _, _, [], _, [], hW', trodAll_mk1 (shut_bool Try.underlying4 _), (trodAll_cons_mk (Below.trod laidOut (by kernel_rfl) (of_decide_eq_true (by kernel_rfl)) t0 bel lt0) (trodAll_cons_mk (Below.trod laidOut (by kernel_rfl) (of_decide_eq_true (by kernel_rfl)) t1 bel lt1) (trodAll_cons_mk (shut_bool Try.underlying4 _) trodAll_mk0))), rfl, bel.frame _, fun h => by cases h⟩

/-- THE STATEMENT. -/
theorem decideFirst_holds : Rows.DecideFirstSaid :=
  OpenClaim.holds_of_wide 10 Try.f10 rfl rfl rfl rfl rfl rfl rfl ⟨rfl, rfl, rfl, rfl, rfl⟩ rfl rfl rfl rfl rfl (by kernel_rfl) Try.func10 (by kernel_rfl)
    (of_decide_eq_true (by kernel_rfl)) (by unfold Func.isWrapper; first | (rw [if_pos (by decide +kernel)]; kernel_rfl) | (rw [if_neg (by decide +kernel)]; exact ⟨rfl, rfl⟩))
    (fun os started H enc _ => decideFirst_lifted os started H enc)
#print axioms decideFirst_holds
end Go.Proofs.Ytegkogadceodlaa

