/-
  What the rows of flat lean on, part u.
-/
import Derived.Test.YtfafhbgkmlmmdaaGreatDoorYqh
import Derived.Test.YtfafhbgkmlmmdaaGreatDoorYrs
import Derived.Test.YtfafhbgkmlmmdaaGreatDoorYrt
import Derived.Test.YtfafhbgkmlmmdaaGreatDoorYqk
import Derived.Test.YtfafhbgkmlmmdaaGreatDoorYrr
import Derived.Test.YtfafhbgkmlmmdaaGreatDoorYrq
import Derived.Test.YtfafhbgkmlmmdaaGreatDoorYrn
set_option maxRecDepth 100000
set_option maxHeartbeats 40000000
namespace Go.Proofs.YtfafhbgkmlmmdaaGreatDoor.G
open Go.RowKit Go.Shelf Go.Lib Go.Maps Go.Sort
def RRdOk (w : World) (O : Option TG) (e : Ending) (w' : World) : Prop := ∃ v, e = .returned (.tuple #[tagV (O.getD tg0) v, .bool O.isSome]) ∧ OwnR w' w.heap.size (O.getD tg0).attrs v ∧ Below w.heap.size w w'
theorem rrdOk_none (w w' : World) (h : Below w.heap.size w w') : RRdOk w none (.returned (.tuple #[.agg #[.int .i64 0, .int .i64 0, .string ⟨#[]⟩, .slice none 0 0, .bool false, .bool false], .bool false])) w' := ⟨_, rfl, ownR_nil _ _, h⟩
theorem rrdOk_up {w : World} {O : Option TG} {T : TG} (hO : O = some T) (hT : T.name = [] ∧ T.attrs = [] ∧ T.single = false) : ∀ w', Below w.heap.size w w' → RRdOk w O (.returned (.tuple #[.agg #[.int .i64 (T.kind : Int), .int .i64 (T.size : Int), .string ⟨#[]⟩, .slice none 0 0, .bool false, .bool T.closed], .bool true])) w' := fun w' h => by
 subst hO
 refine ⟨.slice none 0 0, ?_, ?_, h⟩
 ·show _ = Ending.returned (Value.tuple #[tagV T _, .bool true])
  unfold tagV
  rw [hT.1, hT.2.2]
  rfl
 ·show OwnR _ _ T.attrs _
  rw [hT.2.1]
  exact ownR_nil _ _
theorem rrdOk_tag {w : World} {O : Option TG} {T : TG} (hO : O = some T) : ∀ v w', OwnR w' w.heap.size T.attrs v → Below w.heap.size w w' → RRdOk w O (.returned (.tuple #[tagV T v, .bool true])) w' := fun v w' h1 h2 => by
 subst hO
 exact ⟨v, rfl, h1, h2⟩
theorem refRead_any (xs : List Nat) (A : Option Addr) (cap : Nat) (I : Int) (w : World) (h : BY w w.heap.size xs A cap) (hl : xs.length ≤ 100000) :
  Calls Tryz.prog 46 #[.slice A xs.length cap, .int .i64 I] w (RRdOk w (rdAt xs I)) := by
 have hlen := h.len
 have hno : ∀ w', Below w.heap.size w w' → RRdOk w none (.returned (.tuple #[.agg #[.int .i64 0, .int .i64 0, .string ⟨#[]⟩, .slice none 0 0, .bool false, .bool false], .bool false])) w' := rrdOk_none w
 have b1 := below_new w (.cells #[.int .i64 0, .int .i64 0, .string ⟨#[]⟩, .slice none 0 0, .bool false, .bool false] 83)
 have x1 := cells_new w #[.int .i64 0, .int .i64 0, .string ⟨#[]⟩, .slice none 0 0, .bool false, .bool false] 83
 by_cases h0 : I < 0
 ·have d0 : decide (I < 0) = true := by simpa using h0
  rw [show rdAt xs I = none by rw [rdAt, if_pos h0]]
  obtain ⟨Q, hQ⟩ : ∃ Q, RRdOk w none = Q := ⟨_, rfl⟩
  rw [hQ] at hno ⊢
  have HH := Lib.hid (And.intro hno b1)
  generalize xs.length = N at *
  clear h hno b1 x1 hQ
  go_enter Tryz.func46, Tryz.ntmps46
  go_wp2_with fail
  refine bodyPost_ret (v := .tuple #[.agg #[.int .i64 0, .int .i64 0, .string ⟨#[]⟩, .slice none 0 0, .bool false, .bool false], .bool false]) ?_ rfl ?_
  ·simp [results, Tryz.results46, go_sem]
  ·exact HH.out.1 _ HH.out.2
 have d0 : decide (I < 0) = false := by simpa using h0
 obtain ⟨k, rfl⟩ := Int.eq_ofNat_of_zero_le (show 0 ≤ I by omega)
 rw [show rdAt xs (k : Int) = rdT (xs.drop k) by rw [rdAt, if_neg h0, Int.toNat_natCast]]
 clear h0
 by_cases hlt : k < xs.length
 case neg =>
  have d1 : decide ((xs.length : Int) ≤ (k : Int)) = true := by simp; omega
  rw [List.drop_of_length_le (by omega)]
  show Calls Tryz.prog 46 #[.slice A xs.length cap, .int .i64 (k : Int)] w (RRdOk w none)
  obtain ⟨Q, hQ⟩ : ∃ Q, RRdOk w none = Q := ⟨_, rfl⟩
  rw [hQ] at hno ⊢
  have HH := Lib.hid (And.intro hno b1)
  generalize xs.length = N at *
  clear h hno b1 x1 hQ
  go_enter Tryz.func46, Tryz.ntmps46
  go_wp2_with fail
  refine bodyPost_ret (v := .tuple #[.agg #[.int .i64 0, .int .i64 0, .string ⟨#[]⟩, .slice none 0 0, .bool false, .bool false], .bool false]) ?_ rfl ?_
  ·simp [results, Tryz.results46, go_sem]
  ·exact HH.out.1 _ HH.out.2
 have d1 : decide ((xs.length : Int) ≤ (k : Int)) = false := by simp; omega
 obtain ⟨d, hx⟩ := at_lt (l := xs) (k := k) hlt
 obtain ⟨b, o, rfl, _, c0⟩ := h.at hx
 have hY := h.drop hlt
 have hcap := h.l
 have hmx := h.m
 unfold maxLen at hmx
 have hdl : (xs.drop k).length = xs.length - k := by simp
 have i1 : (k : Int) < (xs.length : Int) := by omega
 by_cases hd : d = 60
 case neg =>
  have dn : ((d : Int) != 60) = true := by rw [bne_iff_ne]; omega
  have hr : rdT (xs.drop k) = none := by
   rw [drop_at hx]
   cases xs.drop (k + 1) with
   | nil => rfl
   | cons c t => simp [rdT, hd]
  rw [hr]
  obtain ⟨Q, hQ⟩ : ∃ Q, RRdOk w none = Q := ⟨_, rfl⟩
  rw [hQ] at hno ⊢
  have HH := Lib.hid (And.intro hno b1)
  generalize xs.length = N at *
  clear h hno b1 x1 hQ hY hdl hd hr hx
  generalize (d : Int) = D at *
  go_enter Tryz.func46, Tryz.ntmps46
  go_wp2_with fail
  refine bodyPost_ret (v := .tuple #[.agg #[.int .i64 0, .int .i64 0, .string ⟨#[]⟩, .slice none 0 0, .bool false, .bool false], .bool false]) ?_ rfl ?_
  ·simp [results, Tryz.results46, go_sem]
  ·exact HH.out.1 _ HH.out.2
 subst hd
 by_cases hl1 : xs.length - k = 1
 ·have hr : rdT (xs.drop k) = none := by
   rw [drop_at hx, List.drop_of_length_le (by omega)]
   rfl
  rw [hr]
  obtain ⟨Q, hQ⟩ : ∃ Q, RRdOk w none = Q := ⟨_, rfl⟩
  rw [hQ] at hno ⊢
  have HH := Lib.hid (And.intro hno b1)
  generalize xs.length = N at *
  have e9 : (((N - k : Nat) : Int) == 1) = true := by rw [hl1]; rfl
  clear h hno b1 x1 hQ hY hdl hr hx
  go_enter Tryz.func46, Tryz.ntmps46
  go_wp2_with fail
  refine bodyPost_ret (v := .tuple #[.agg #[.int .i64 0, .int .i64 0, .string ⟨#[]⟩, .slice none 0 0, .bool false, .bool false], .bool false]) ?_ rfl ?_
  ·simp [results, Tryz.results46, go_sem]
  ·exact HH.out.1 _ HH.out.2
 obtain ⟨c, hc⟩ := at_lt (l := xs) (k := k + 1) (by omega)
 have hdx : xs.drop k = 60 :: c :: xs.drop (k + 2) := by rw [drop_at hx, drop_at hc]
 obtain ⟨t, ht⟩ : ∃ t, xs.drop (k + 2) = t := ⟨_, rfl⟩
 have htl : t.length = xs.length - (k + 2) := by rw [← ht]; simp
 have c1 : w.cell? ⟨b, o + k + 1, none⟩ = some (.int .u8 (c : Int)) := by
  obtain ⟨b', o', e', _, e1⟩ := hY.at (i := 1) (x := c) (by rw [hdx]; rfl)
  obtain ⟨rfl, rfl⟩ : b = b' ∧ o + k = o' := by simpa using e'
  exact e1
 have c2 : ∀ e : Nat, t[0]? = some e → w.cell? ⟨b, o + k + 2, none⟩ = some (.int .u8 (e : Int)) := fun e he => by
  obtain ⟨b', o', e', _, e1⟩ := hY.at (i := 2) (x := e) (by rw [hdx, ht]; exact he)
  obtain ⟨rfl, rfl⟩ : b = b' ∧ o + k = o' := by simpa using e'
  exact e1
 have h4 : 4 ≤ xs.length - k → ((xs.drop k).take 4).length = 4 := fun h => by rw [List.length_take, hdl]; omega
 have hcv4 : 4 ≤ xs.length - k → ∀ W, Below w.heap.size w W → (convert 22 9 (.slice (some ⟨b, o + k, none⟩) 4 (cap - k))).run Tryz.prog W = .ok (.string ⟨(u8s ((xs.drop k).take 4)).toArray⟩) W := fun h W hb => by
  have hh := conv_by ((hY.on hb).take 4)
  rw [h4 h] at hh
  exact hh
 have h256 : ∀ x ∈ (xs.drop k).take 4, x < 256 := fun x hx => hY.i x (List.mem_of_mem_take hx)
 rw [ht] at hdx
 have hY1 := hY.on b1
 have RT := fun kind n (hn : n ≤ (xs.drop k).length) => refTag_any b (o + k) (cap - k) n kind (xs.drop k) _ hY1 hn (by omega)
 have RC := upToC_any b (o + k) (cap - k) (xs.drop k) _ hY1 (by omega)
 have RD := upToD_any b (o + k) (cap - k) (xs.drop k) _ hY1 (by omega)
 have hz1 : w.heap.size < (w.alloc (.cells #[.int .i64 0, .int .i64 0, .string ⟨#[]⟩, .slice none 0 0, .bool false, .bool false] 83)).heap.size := x1.lt
 have hnn : ∀ w', rdT (xs.drop k) = none → Below w.heap.size w w' → RRdOk w (rdT (xs.drop k)) (.returned (.tuple #[.agg #[.int .i64 0, .int .i64 0, .string ⟨#[]⟩, .slice none 0 0, .bool false, .bool false], .bool false])) w' := fun w' hr h => by
  rw [hr]; exact hno w' h
 have hup : ∀ T : TG, rdT (xs.drop k) = some T → _ := fun T hT => rrdOk_up (w := w) hT
 have htg : ∀ T : TG, rdT (xs.drop k) = some T → _ := fun T hT => rrdOk_tag (w := w) hT
 rw [hdl] at RC RD RT
 have hcw : ∀ W, Calls Tryz.prog 77 #[.int .u8 (c : Int)] W fun e w' => e = .returned (.bool (ltrB c)) ∧ w' = W := fun W => letter_any c W
 have hlw : ∀ e W, Calls Tryz.prog 77 #[.int .u8 ((e : Nat) : Int)] W fun r w' => r = .returned (.bool (ltrB e)) ∧ w' = W := fun e W => letter_any e W
 obtain ⟨Q, hQ⟩ : ∃ Q, RRdOk w (rdT (xs.drop k)) = Q := ⟨_, rfl⟩
 rw [hQ] at hnn hup htg ⊢
 have hNk : (t.length + 2) = xs.length - k := by omega
 clear hQ hno hY hY1
 have d9 : (((xs.length - k : Nat) : Int) == 1) = false := by rw [beq_eq_false_iff_ne]; omega
 have i5 : (1 : Int) < ((xs.length - k : Nat) : Int) := by omega
 by_cases hco : c = 33 ∧ t.take 2 = [45, 45]
 ·obtain ⟨rfl, htt⟩ := hco
  have h2l : 2 ≤ t.length := by have := congrArg List.length htt; simp at this; omega
  have hr : rdT (xs.drop k) = some (upGo (xs.length - k) 2 [45, 45, 62] ((xs.drop k).drop 4)) := by
   rw [hdx, ← hNk]
   simp only [rdT, htt, show ltrB 33 = false from rfl, ne_eq, not_true_eq_false, if_false, Bool.false_eq_true, show ¬ (33 = 47) from by decide, false_and, and_self, if_true]
   rfl
  have ht4 : (xs.drop k).take 4 = [60, 33, 45, 45] := by
   rw [hdx]
   show 60 :: 33 :: t.take 2 = _
   rw [htt]
  have hcv := hcv4 (by omega) _ b1
  rw [ht4] at hcv
  have i6 : (4 : Int) ≤ ((xs.length - k : Nat) : Int) := by omega
  obtain ⟨T, hT⟩ : ∃ T, upGo (xs.length - k) 2 [45, 45, 62] ((xs.drop k).drop 4) = T := ⟨_, rfl⟩
  have hTn : T.name = [] ∧ T.attrs = [] ∧ T.single = false := by rw [← hT]; exact upGo_plain _ _ _ _
  have C := RC
  rw [hT] at C
  have hok := hup T (by rw [← hT, hr]) hTn
  have HH := Lib.hid (And.intro C (And.intro hok (And.intro b1 x1)))
  clear C hok hT hr hTn
  clear b1 x1
  clear h RT RC RD hnn hup htg hcv4 h4 h256 hdx ht htl hx hc hNk hdl c2 hl1 hcw hlw
  generalize xs.length = N at *
  go_enter Tryz.func46, Tryz.ntmps46
  go_wp2_with fail
  refine HH.out.1.mono ?_
  rintro r w2 ⟨rfl, hb2⟩
  have x2 : Cells w2 w.heap.size 83 #[.int .i64 0, .int .i64 0, .string ⟨#[]⟩, .slice none 0 0, .bool false, .bool false] := (hb2.block _ hz1).trans HH.out.2.2.2
  have s0 := x2.cell 0
  have s1 := x2.cell 1
  have s2 := x2.cell 2
  have s3 := x2.cell 3
  have s4 := x2.cell 4
  have s5 := x2.cell 5
  have t0 := x2.froz 0
  have t1 := x2.froz 1
  have t2 := x2.froz 2
  have t3 := x2.froz 3
  have t4 := x2.froz 4
  have t5 := x2.froz 5
  simp at s0 s1 s2 s3 s4 s5
  have hb3 : Below w.heap.size w w2 := HH.out.2.2.1.trans (hb2.mono (Nat.le_of_lt hz1))
  have HF := Lib.hid hb3
  clear hb2 hb3 x2
  go_wp2_with fail
  refine bodyPost_ret (v := .tuple #[.agg #[.int .i64 (T.kind : Int), .int .i64 (T.size : Int), .string ⟨#[]⟩, .slice none 0 0, .bool false, .bool T.closed], .bool true]) ?_ rfl ?_
  ·simp [results, Tryz.results46, go_sem, s0, s1, s2, s3, s4, s5]
  ·exact HH.out.2.1 _ (((((((HF.out.setc (Nat.le_refl _) 0 _).setc (Nat.le_refl _) 1 _).setc (Nat.le_refl _) 2 _).setc (Nat.le_refl _) 3 _).setc (Nat.le_refl _) 4 _).setc (Nat.le_refl _) 5 _))
 have hpre : 4 ≤ xs.length - k → ∀ W, Below w.heap.size w W → ∃ SA : ByteArray, (convert 22 9 (.slice (some ⟨b, o + k, none⟩) 4 (cap - k))).run Tryz.prog W = .ok (.string SA) W ∧ (SA.toList == [60, 33, 45, 45]) = false := fun h W hb => by
  refine ⟨_, hcv4 h W hb, ?_⟩
  rw [beq_eq_false_iff_ne]
  intro e
  have e2 : (⟨(u8s ((xs.drop k).take 4)).toArray⟩ : ByteArray).toList = u8s ((xs.drop k).take 4) := by first | exact ByteArray.toList_mk _ | simp
  rw [e2] at e
  have e3 := u8s_inj h256 (by decide) (show u8s ((xs.drop k).take 4) = u8s [60, 33, 45, 45] from e)
  rw [hdx] at e3
  have e4 : 60 :: c :: t.take 2 = [60, 33, 45, 45] := e3
  injection e4 with _ e5
  injection e5 with e6 e7
  exact hco ⟨e6, e7⟩
 by_cases hlt2 : ltrB c = true
 case pos =>
  have hr : rdT (xs.drop k) = some (refGo (xs.length - k) 0 rs0 ((xs.drop k).drop 1)) := by
   rw [hdx, ← hNk]
   simp [rdT, hlt2]
  have n47 : c ≠ 47 := by rintro rfl; simp [ltrB] at hlt2
  have b47 : ((c : Int) == 47) = false := by rw [beq_eq_false_iff_ne]; omega
  have hcl : ∀ W, Calls Tryz.prog 77 #[.int .u8 (c : Int)] W fun e w' => e = .returned (.bool true) ∧ w' = W := fun W => by have := hcw W; rw [hlt2] at this; exact this
  clear n47 hlt2 hco
  by_cases h4l : 4 ≤ xs.length - k
  ·obtain ⟨SA, hcv, hl9⟩ := hpre h4l _ b1
   have i6 : (4 : Int) ≤ ((xs.length - k : Nat) : Int) := by omega
   clear hpre
   have C := RT 0 1 (by omega)
   obtain ⟨T, hT⟩ : ∃ T, refGo (xs.length - k) 0 rs0 ((xs.drop k).drop 1) = T := ⟨_, rfl⟩
   rw [hT] at C
   have hok := htg T (by rw [← hT, hr])
   obtain ⟨NB, hNB⟩ : ∃ S : ByteArray, ⟨(u8s T.name).toArray⟩ = S := ⟨_, rfl⟩
   unfold tagV strV at hok
   rw [hNB] at hok
   have HNB := Lib.hid hNB
   have HH := Lib.hid (And.intro C (And.intro hok (And.intro b1 x1)))
   clear C hok hT hr hNB
   clear b1 x1
   clear h RT RC RD hnn hup htg hcv4 h4 h256 hdx ht htl hx hc hNk hdl c2 hl1 hcw hlw
   generalize xs.length = N at *
   go_enter Tryz.func46, Tryz.ntmps46
   go_wp2_with fail
   refine (hcl _).mono ?_
   rintro r wq ⟨rfl, eq⟩
   obtain rfl := eq.symm
   go_wp2_with fail
   refine HH.out.1.mono ?_
   rintro r w2 ⟨v, rfl, ho, hb2⟩
   obtain ⟨Av, nv, cv, rfl⟩ := ho.slice
   have x2 : Cells w2 w.heap.size 83 #[.int .i64 0, .int .i64 0, .string ⟨#[]⟩, .slice none 0 0, .bool false, .bool false] := (hb2.block _ hz1).trans HH.out.2.2.2
   have s0 := x2.cell 0
   have s1 := x2.cell 1
   have s2 := x2.cell 2
   have s3 := x2.cell 3
   have s4 := x2.cell 4
   have s5 := x2.cell 5
   have t0 := x2.froz 0
   have t1 := x2.froz 1
   have t2 := x2.froz 2
   have t3 := x2.froz 3
   have t4 := x2.froz 4
   have t5 := x2.froz 5
   simp at s0 s1 s2 s3 s4 s5
   have ho2 : OwnR w2 (w.heap.size + 1) T.attrs (.slice Av nv cv) := by
    rw [World.size_alloc] at ho
    exact ho
   have hb3 : Below w.heap.size w w2 := HH.out.2.2.1.trans (hb2.mono (Nat.le_of_lt hz1))
   have HF := Lib.hid (And.intro ho2 hb3)
   clear ho ho2 hb2 hb3 x2
   unfold tagV strV
   rw [HNB.out]
   go_wp2_with fail
   refine bodyPost_ret (v := .tuple #[.agg #[.int .i64 (T.kind : Int), .int .i64 (T.size : Int), .string NB, .slice Av nv cv, .bool T.single, .bool T.closed], .bool true]) ?_ rfl ?_
   ·simp [results, Tryz.results46, go_sem, s0, s1, s2, s3, s4, s5]
   ·exact HH.out.2.1 _ _ (ownsRow_base (((((((HF.out.1.set (by omega) 0 _).set (by omega) 1 _).set (by omega) 2 _).set (by omega) 3 _).set (by omega) 4 _).set (by omega) 5 _)) (by omega)) (((((((HF.out.2.setc (Nat.le_refl _) 0 _).setc (Nat.le_refl _) 1 _).setc (Nat.le_refl _) 2 _).setc (Nat.le_refl _) 3 _).setc (Nat.le_refl _) 4 _).setc (Nat.le_refl _) 5 _))
  ·have i6 : ¬ (4 : Int) ≤ ((xs.length - k : Nat) : Int) := by omega
   clear hpre
   have C := RT 0 1 (by omega)
   obtain ⟨T, hT⟩ : ∃ T, refGo (xs.length - k) 0 rs0 ((xs.drop k).drop 1) = T := ⟨_, rfl⟩
   rw [hT] at C
   have hok := htg T (by rw [← hT, hr])
   obtain ⟨NB, hNB⟩ : ∃ S : ByteArray, ⟨(u8s T.name).toArray⟩ = S := ⟨_, rfl⟩
   unfold tagV strV at hok
   rw [hNB] at hok
   have HNB := Lib.hid hNB
   have HH := Lib.hid (And.intro C (And.intro hok (And.intro b1 x1)))
   clear C hok hT hr hNB
   clear b1 x1
   clear h RT RC RD hnn hup htg hcv4 h4 h256 hdx ht htl hx hc hNk hdl c2 hl1 hcw hlw
   generalize xs.length = N at *
   go_enter Tryz.func46, Tryz.ntmps46
   go_wp2_with fail
   refine (hcl _).mono ?_
   rintro r wq ⟨rfl, eq⟩
   obtain rfl := eq.symm
   go_wp2_with fail
   refine HH.out.1.mono ?_
   rintro r w2 ⟨v, rfl, ho, hb2⟩
   obtain ⟨Av, nv, cv, rfl⟩ := ho.slice
   have x2 : Cells w2 w.heap.size 83 #[.int .i64 0, .int .i64 0, .string ⟨#[]⟩, .slice none 0 0, .bool false, .bool false] := (hb2.block _ hz1).trans HH.out.2.2.2
   have s0 := x2.cell 0
   have s1 := x2.cell 1
   have s2 := x2.cell 2
   have s3 := x2.cell 3
   have s4 := x2.cell 4
   have s5 := x2.cell 5
   have t0 := x2.froz 0
   have t1 := x2.froz 1
   have t2 := x2.froz 2
   have t3 := x2.froz 3
   have t4 := x2.froz 4
   have t5 := x2.froz 5
   simp at s0 s1 s2 s3 s4 s5
   have ho2 : OwnR w2 (w.heap.size + 1) T.attrs (.slice Av nv cv) := by
    rw [World.size_alloc] at ho
    exact ho
   have hb3 : Below w.heap.size w w2 := HH.out.2.2.1.trans (hb2.mono (Nat.le_of_lt hz1))
   have HF := Lib.hid (And.intro ho2 hb3)
   clear ho ho2 hb2 hb3 x2
   unfold tagV strV
   rw [HNB.out]
   go_wp2_with fail
   refine bodyPost_ret (v := .tuple #[.agg #[.int .i64 (T.kind : Int), .int .i64 (T.size : Int), .string NB, .slice Av nv cv, .bool T.single, .bool T.closed], .bool true]) ?_ rfl ?_
   ·simp [results, Tryz.results46, go_sem, s0, s1, s2, s3, s4, s5]
   ·exact HH.out.2.1 _ _ (ownsRow_base (((((((HF.out.1.set (by omega) 0 _).set (by omega) 1 _).set (by omega) 2 _).set (by omega) 3 _).set (by omega) 4 _).set (by omega) 5 _)) (by omega)) (((((((HF.out.2.setc (Nat.le_refl _) 0 _).setc (Nat.le_refl _) 1 _).setc (Nat.le_refl _) 2 _).setc (Nat.le_refl _) 3 _).setc (Nat.le_refl _) 4 _).setc (Nat.le_refl _) 5 _))
 have hcf : ltrB c = false := by simpa using hlt2
 have hcl : ∀ W, Calls Tryz.prog 77 #[.int .u8 (c : Int)] W fun e w' => e = .returned (.bool false) ∧ w' = W := fun W => by have := hcw W; rw [hcf] at this; exact this
 by_cases h47 : c = 47
 case pos =>
  subst h47
  cases t with
  | nil =>
   have hr : rdT (xs.drop k) = some (upGo (xs.length - k) 3 [62] ((xs.drop k).drop 2)) := by
    rw [hdx, ← hNk]
    rfl
   have i6 : ¬ (4 : Int) ≤ ((xs.length - k : Nat) : Int) := by simp at hNk; omega
   have i7 : ¬ (3 : Int) ≤ ((xs.length - k : Nat) : Int) := by simp at hNk; omega
   clear hlt2 hco hpre hcf
   obtain ⟨T, hT⟩ : ∃ T, upGo (xs.length - k) 3 [62] ((xs.drop k).drop 2) = T := ⟨_, rfl⟩
   have hTn : T.name = [] ∧ T.attrs = [] ∧ T.single = false := by rw [← hT]; exact upGo_plain _ _ _ _
   have C := RD
   rw [hT] at C
   have hok := hup T (by rw [← hT, hr]) hTn
   have HH := Lib.hid (And.intro C (And.intro hok (And.intro b1 x1)))
   clear C hok hT hr hTn
   clear b1 x1
   clear h RT RC RD hnn hup htg hcv4 h4 h256 hdx ht htl hx hc hNk hdl c2 hl1 hcw hlw
   generalize xs.length = N at *
   go_enter Tryz.func46, Tryz.ntmps46
   go_wp2_with fail
   refine (hcl _).mono ?_
   rintro r wq ⟨rfl, eq⟩
   obtain rfl := eq.symm
   go_wp2_with fail
   refine HH.out.1.mono ?_
   rintro r w2 ⟨rfl, hb2⟩
   have x2 : Cells w2 w.heap.size 83 #[.int .i64 0, .int .i64 0, .string ⟨#[]⟩, .slice none 0 0, .bool false, .bool false] := (hb2.block _ hz1).trans HH.out.2.2.2
   have s0 := x2.cell 0
   have s1 := x2.cell 1
   have s2 := x2.cell 2
   have s3 := x2.cell 3
   have s4 := x2.cell 4
   have s5 := x2.cell 5
   have t0 := x2.froz 0
   have t1 := x2.froz 1
   have t2 := x2.froz 2
   have t3 := x2.froz 3
   have t4 := x2.froz 4
   have t5 := x2.froz 5
   simp at s0 s1 s2 s3 s4 s5
   have hb3 : Below w.heap.size w w2 := HH.out.2.2.1.trans (hb2.mono (Nat.le_of_lt hz1))
   have HF := Lib.hid hb3
   clear hb2 hb3 x2
   go_wp2_with fail
   refine bodyPost_ret (v := .tuple #[.agg #[.int .i64 (T.kind : Int), .int .i64 (T.size : Int), .string ⟨#[]⟩, .slice none 0 0, .bool false, .bool T.closed], .bool true]) ?_ rfl ?_
   ·simp [results, Tryz.results46, go_sem, s0, s1, s2, s3, s4, s5]
   ·exact HH.out.2.1 _ (((((((HF.out.setc (Nat.le_refl _) 0 _).setc (Nat.le_refl _) 1 _).setc (Nat.le_refl _) 2 _).setc (Nat.le_refl _) 3 _).setc (Nat.le_refl _) 4 _).setc (Nat.le_refl _) 5 _))
  | cons e u =>
   have c2 := c2 e rfl
   have i7 : (3 : Int) ≤ ((xs.length - k : Nat) : Int) := by simp at hNk; omega
   have i8 : (2 : Int) < ((xs.length - k : Nat) : Int) := by simp at hNk; omega
   by_cases he : ltrB e = true
   case pos =>
    have hr : rdT (xs.drop k) = some (refGo (xs.length - k) 1 rs0 ((xs.drop k).drop 2)) := by
     rw [hdx, ← hNk]
     simp [rdT, hcf, he]
    have hel : ∀ W, Calls Tryz.prog 77 #[.int .u8 (e : Int)] W fun r w' => r = .returned (.bool true) ∧ w' = W := fun W => by have := hlw e W; rw [he] at this; exact this
    clear he hlt2 hco hcf
    by_cases h4l : 4 ≤ xs.length - k
    ·obtain ⟨SA, hcv, hl9⟩ := hpre h4l _ b1
     have i6 : (4 : Int) ≤ ((xs.length - k : Nat) : Int) := by omega
     clear hpre
     have C := RT 1 2 (by omega)
     obtain ⟨T, hT⟩ : ∃ T, refGo (xs.length - k) 1 rs0 ((xs.drop k).drop 2) = T := ⟨_, rfl⟩
     rw [hT] at C
     have hok := htg T (by rw [← hT, hr])
     obtain ⟨NB, hNB⟩ : ∃ S : ByteArray, ⟨(u8s T.name).toArray⟩ = S := ⟨_, rfl⟩
     unfold tagV strV at hok
     rw [hNB] at hok
     have HNB := Lib.hid hNB
     have HH := Lib.hid (And.intro C (And.intro hok (And.intro b1 x1)))
     clear C hok hT hr hNB
     clear b1 x1
     clear h RT RC RD hnn hup htg hcv4 h4 h256 hdx ht htl hx hc hNk hdl hl1 hcw hlw
     generalize xs.length = N at *
     go_enter Tryz.func46, Tryz.ntmps46
     go_wp2_with fail
     refine (hel _).mono ?_
     rintro r wq ⟨rfl, eq⟩
     obtain rfl := eq.symm
     go_wp2_with fail
     refine HH.out.1.mono ?_
     rintro r w2 ⟨v, rfl, ho, hb2⟩
     obtain ⟨Av, nv, cv, rfl⟩ := ho.slice
     have x2 : Cells w2 w.heap.size 83 #[.int .i64 0, .int .i64 0, .string ⟨#[]⟩, .slice none 0 0, .bool false, .bool false] := (hb2.block _ hz1).trans HH.out.2.2.2
     have s0 := x2.cell 0
     have s1 := x2.cell 1
     have s2 := x2.cell 2
     have s3 := x2.cell 3
     have s4 := x2.cell 4
     have s5 := x2.cell 5
     have t0 := x2.froz 0
     have t1 := x2.froz 1
     have t2 := x2.froz 2
     have t3 := x2.froz 3
     have t4 := x2.froz 4
     have t5 := x2.froz 5
     simp at s0 s1 s2 s3 s4 s5
     have ho2 : OwnR w2 (w.heap.size + 1) T.attrs (.slice Av nv cv) := by
      rw [World.size_alloc] at ho
      exact ho
     have hb3 : Below w.heap.size w w2 := HH.out.2.2.1.trans (hb2.mono (Nat.le_of_lt hz1))
     have HF := Lib.hid (And.intro ho2 hb3)
     clear ho ho2 hb2 hb3 x2
     unfold tagV strV
     rw [HNB.out]
     go_wp2_with fail
     refine bodyPost_ret (v := .tuple #[.agg #[.int .i64 (T.kind : Int), .int .i64 (T.size : Int), .string NB, .slice Av nv cv, .bool T.single, .bool T.closed], .bool true]) ?_ rfl ?_
     ·simp [results, Tryz.results46, go_sem, s0, s1, s2, s3, s4, s5]
     ·exact HH.out.2.1 _ _ (ownsRow_base (((((((HF.out.1.set (by omega) 0 _).set (by omega) 1 _).set (by omega) 2 _).set (by omega) 3 _).set (by omega) 4 _).set (by omega) 5 _)) (by omega)) (((((((HF.out.2.setc (Nat.le_refl _) 0 _).setc (Nat.le_refl _) 1 _).setc (Nat.le_refl _) 2 _).setc (Nat.le_refl _) 3 _).setc (Nat.le_refl _) 4 _).setc (Nat.le_refl _) 5 _))
    ·have i6 : ¬ (4 : Int) ≤ ((xs.length - k : Nat) : Int) := by omega
     clear hpre
     have C := RT 1 2 (by omega)
     obtain ⟨T, hT⟩ : ∃ T, refGo (xs.length - k) 1 rs0 ((xs.drop k).drop 2) = T := ⟨_, rfl⟩
     rw [hT] at C
     have hok := htg T (by rw [← hT, hr])
     obtain ⟨NB, hNB⟩ : ∃ S : ByteArray, ⟨(u8s T.name).toArray⟩ = S := ⟨_, rfl⟩
     unfold tagV strV at hok
     rw [hNB] at hok
     have HNB := Lib.hid hNB
     have HH := Lib.hid (And.intro C (And.intro hok (And.intro b1 x1)))
     clear C hok hT hr hNB
     clear b1 x1
     clear h RT RC RD hnn hup htg hcv4 h4 h256 hdx ht htl hx hc hNk hdl hl1 hcw hlw
     generalize xs.length = N at *
     go_enter Tryz.func46, Tryz.ntmps46
     go_wp2_with fail
     refine (hel _).mono ?_
     rintro r wq ⟨rfl, eq⟩
     obtain rfl := eq.symm
     go_wp2_with fail
     refine HH.out.1.mono ?_
     rintro r w2 ⟨v, rfl, ho, hb2⟩
     obtain ⟨Av, nv, cv, rfl⟩ := ho.slice
     have x2 : Cells w2 w.heap.size 83 #[.int .i64 0, .int .i64 0, .string ⟨#[]⟩, .slice none 0 0, .bool false, .bool false] := (hb2.block _ hz1).trans HH.out.2.2.2
     have s0 := x2.cell 0
     have s1 := x2.cell 1
     have s2 := x2.cell 2
     have s3 := x2.cell 3
     have s4 := x2.cell 4
     have s5 := x2.cell 5
     have t0 := x2.froz 0
     have t1 := x2.froz 1
     have t2 := x2.froz 2
     have t3 := x2.froz 3
     have t4 := x2.froz 4
     have t5 := x2.froz 5
     simp at s0 s1 s2 s3 s4 s5
     have ho2 : OwnR w2 (w.heap.size + 1) T.attrs (.slice Av nv cv) := by
      rw [World.size_alloc] at ho
      exact ho
     have hb3 : Below w.heap.size w w2 := HH.out.2.2.1.trans (hb2.mono (Nat.le_of_lt hz1))
     have HF := Lib.hid (And.intro ho2 hb3)
     clear ho ho2 hb2 hb3 x2
     unfold tagV strV
     rw [HNB.out]
     go_wp2_with fail
     refine bodyPost_ret (v := .tuple #[.agg #[.int .i64 (T.kind : Int), .int .i64 (T.size : Int), .string NB, .slice Av nv cv, .bool T.single, .bool T.closed], .bool true]) ?_ rfl ?_
     ·simp [results, Tryz.results46, go_sem, s0, s1, s2, s3, s4, s5]
     ·exact HH.out.2.1 _ _ (ownsRow_base (((((((HF.out.1.set (by omega) 0 _).set (by omega) 1 _).set (by omega) 2 _).set (by omega) 3 _).set (by omega) 4 _).set (by omega) 5 _)) (by omega)) (((((((HF.out.2.setc (Nat.le_refl _) 0 _).setc (Nat.le_refl _) 1 _).setc (Nat.le_refl _) 2 _).setc (Nat.le_refl _) 3 _).setc (Nat.le_refl _) 4 _).setc (Nat.le_refl _) 5 _))
   case neg =>
    have hef : ltrB e = false := by simpa using he
    have hr : rdT (xs.drop k) = some (upGo (xs.length - k) 3 [62] ((xs.drop k).drop 2)) := by
     rw [hdx, ← hNk]
     simp [rdT, hcf, hef]
    have hel : ∀ W, Calls Tryz.prog 77 #[.int .u8 (e : Int)] W fun r w' => r = .returned (.bool false) ∧ w' = W := fun W => by have := hlw e W; rw [hef] at this; exact this
    clear he hlt2 hco hcf hef
    by_cases h4l : 4 ≤ xs.length - k
    ·obtain ⟨SA, hcv, hl9⟩ := hpre h4l _ b1
     have i6 : (4 : Int) ≤ ((xs.length - k : Nat) : Int) := by omega
     clear hpre
     obtain ⟨T, hT⟩ : ∃ T, upGo (xs.length - k) 3 [62] ((xs.drop k).drop 2) = T := ⟨_, rfl⟩
     have hTn : T.name = [] ∧ T.attrs = [] ∧ T.single = false := by rw [← hT]; exact upGo_plain _ _ _ _
     have C := RD
     rw [hT] at C
     have hok := hup T (by rw [← hT, hr]) hTn
     have HH := Lib.hid (And.intro C (And.intro hok (And.intro b1 x1)))
     clear C hok hT hr hTn
     clear b1 x1
     clear h RT RC RD hnn hup htg hcv4 h4 h256 hdx ht htl hx hc hNk hdl hl1 hcw hlw
     generalize xs.length = N at *
     go_enter Tryz.func46, Tryz.ntmps46
     go_wp2_with fail
     refine (hel _).mono ?_
     rintro r wq ⟨rfl, eq⟩
     obtain rfl := eq.symm
     go_wp2_with fail
     refine (hcl _).mono ?_
     rintro r wq ⟨rfl, eq⟩
     obtain rfl := eq.symm
     go_wp2_with fail
     refine HH.out.1.mono ?_
     rintro r w2 ⟨rfl, hb2⟩
     have x2 : Cells w2 w.heap.size 83 #[.int .i64 0, .int .i64 0, .string ⟨#[]⟩, .slice none 0 0, .bool false, .bool false] := (hb2.block _ hz1).trans HH.out.2.2.2
     have s0 := x2.cell 0
     have s1 := x2.cell 1
     have s2 := x2.cell 2
     have s3 := x2.cell 3
     have s4 := x2.cell 4
     have s5 := x2.cell 5
     have t0 := x2.froz 0
     have t1 := x2.froz 1
     have t2 := x2.froz 2
     have t3 := x2.froz 3
     have t4 := x2.froz 4
     have t5 := x2.froz 5
     simp at s0 s1 s2 s3 s4 s5
     have hb3 : Below w.heap.size w w2 := HH.out.2.2.1.trans (hb2.mono (Nat.le_of_lt hz1))
     have HF := Lib.hid hb3
     clear hb2 hb3 x2
     go_wp2_with fail
     refine bodyPost_ret (v := .tuple #[.agg #[.int .i64 (T.kind : Int), .int .i64 (T.size : Int), .string ⟨#[]⟩, .slice none 0 0, .bool false, .bool T.closed], .bool true]) ?_ rfl ?_
     ·simp [results, Tryz.results46, go_sem, s0, s1, s2, s3, s4, s5]
     ·exact HH.out.2.1 _ (((((((HF.out.setc (Nat.le_refl _) 0 _).setc (Nat.le_refl _) 1 _).setc (Nat.le_refl _) 2 _).setc (Nat.le_refl _) 3 _).setc (Nat.le_refl _) 4 _).setc (Nat.le_refl _) 5 _))
    ·have i6 : ¬ (4 : Int) ≤ ((xs.length - k : Nat) : Int) := by omega
     clear hpre
     obtain ⟨T, hT⟩ : ∃ T, upGo (xs.length - k) 3 [62] ((xs.drop k).drop 2) = T := ⟨_, rfl⟩
     have hTn : T.name = [] ∧ T.attrs = [] ∧ T.single = false := by rw [← hT]; exact upGo_plain _ _ _ _
     have C := RD
     rw [hT] at C
     have hok := hup T (by rw [← hT, hr]) hTn
     have HH := Lib.hid (And.intro C (And.intro hok (And.intro b1 x1)))
     clear C hok hT hr hTn
     clear b1 x1
     clear h RT RC RD hnn hup htg hcv4 h4 h256 hdx ht htl hx hc hNk hdl hl1 hcw hlw
     generalize xs.length = N at *
     go_enter Tryz.func46, Tryz.ntmps46
     go_wp2_with fail
     refine (hel _).mono ?_
     rintro r wq ⟨rfl, eq⟩
     obtain rfl := eq.symm
     go_wp2_with fail
     refine (hcl _).mono ?_
     rintro r wq ⟨rfl, eq⟩
     obtain rfl := eq.symm
     go_wp2_with fail
     refine HH.out.1.mono ?_
     rintro r w2 ⟨rfl, hb2⟩
     have x2 : Cells w2 w.heap.size 83 #[.int .i64 0, .int .i64 0, .string ⟨#[]⟩, .slice none 0 0, .bool false, .bool false] := (hb2.block _ hz1).trans HH.out.2.2.2
     have s0 := x2.cell 0
     have s1 := x2.cell 1
     have s2 := x2.cell 2
     have s3 := x2.cell 3
     have s4 := x2.cell 4
     have s5 := x2.cell 5
     have t0 := x2.froz 0
     have t1 := x2.froz 1
     have t2 := x2.froz 2
     have t3 := x2.froz 3
     have t4 := x2.froz 4
     have t5 := x2.froz 5
     simp at s0 s1 s2 s3 s4 s5
     have hb3 : Below w.heap.size w w2 := HH.out.2.2.1.trans (hb2.mono (Nat.le_of_lt hz1))
     have HF := Lib.hid hb3
     clear hb2 hb3 x2
     go_wp2_with fail
     refine bodyPost_ret (v := .tuple #[.agg #[.int .i64 (T.kind : Int), .int .i64 (T.size : Int), .string ⟨#[]⟩, .slice none 0 0, .bool false, .bool T.closed], .bool true]) ?_ rfl ?_
     ·simp [results, Tryz.results46, go_sem, s0, s1, s2, s3, s4, s5]
     ·exact HH.out.2.1 _ (((((((HF.out.setc (Nat.le_refl _) 0 _).setc (Nat.le_refl _) 1 _).setc (Nat.le_refl _) 2 _).setc (Nat.le_refl _) 3 _).setc (Nat.le_refl _) 4 _).setc (Nat.le_refl _) 5 _))
 have b47 : ((c : Int) == 47) = false := by rw [beq_eq_false_iff_ne]; omega
 by_cases h33 : c = 33 ∨ c = 63
 case pos =>
  have hr : rdT (xs.drop k) = some (upGo (xs.length - k) 3 [62] ((xs.drop k).drop 2)) := by
   rw [hdx, ← hNk]
   have h1 : ¬ (c = 47 ∧ (t.head?.map ltrB) = some true) := fun h => h47 h.1
   have h2 : c = 33 ∨ c = 63 ∨ c = 47 := by omega
   simp only [rdT, hcf, if_neg h1, if_neg hco, if_pos h2, ne_eq, not_true_eq_false, if_false, Bool.false_eq_true]
   rfl
  clear hco hcf hlt2
  rcases h33 with rfl | rfl
  ·clear h47 b47
   by_cases h4l : 4 ≤ xs.length - k
   ·obtain ⟨SA, hcv, hl9⟩ := hpre h4l _ b1
    have i6 : (4 : Int) ≤ ((xs.length - k : Nat) : Int) := by omega
    clear hpre
    obtain ⟨T, hT⟩ : ∃ T, upGo (xs.length - k) 3 [62] ((xs.drop k).drop 2) = T := ⟨_, rfl⟩
    have hTn : T.name = [] ∧ T.attrs = [] ∧ T.single = false := by rw [← hT]; exact upGo_plain _ _ _ _
    have C := RD
    rw [hT] at C
    have hok := hup T (by rw [← hT, hr]) hTn
    have HH := Lib.hid (And.intro C (And.intro hok (And.intro b1 x1)))
    clear C hok hT hr hTn
    clear b1 x1
    clear h RT RC RD hnn hup htg hcv4 h4 h256 hdx ht htl hx hc hNk hdl c2 hl1 hcw hlw
    generalize xs.length = N at *
    go_enter Tryz.func46, Tryz.ntmps46
    go_wp2_with fail
    refine (hcl _).mono ?_
    rintro r wq ⟨rfl, eq⟩
    obtain rfl := eq.symm
    go_wp2_with fail
    refine HH.out.1.mono ?_
    rintro r w2 ⟨rfl, hb2⟩
    have x2 : Cells w2 w.heap.size 83 #[.int .i64 0, .int .i64 0, .string ⟨#[]⟩, .slice none 0 0, .bool false, .bool false] := (hb2.block _ hz1).trans HH.out.2.2.2
    have s0 := x2.cell 0
    have s1 := x2.cell 1
    have s2 := x2.cell 2
    have s3 := x2.cell 3
    have s4 := x2.cell 4
    have s5 := x2.cell 5
    have t0 := x2.froz 0
    have t1 := x2.froz 1
    have t2 := x2.froz 2
    have t3 := x2.froz 3
    have t4 := x2.froz 4
    have t5 := x2.froz 5
    simp at s0 s1 s2 s3 s4 s5
    have hb3 : Below w.heap.size w w2 := HH.out.2.2.1.trans (hb2.mono (Nat.le_of_lt hz1))
    have HF := Lib.hid hb3
    clear hb2 hb3 x2
    go_wp2_with fail
    refine bodyPost_ret (v := .tuple #[.agg #[.int .i64 (T.kind : Int), .int .i64 (T.size : Int), .string ⟨#[]⟩, .slice none 0 0, .bool false, .bool T.closed], .bool true]) ?_ rfl ?_
    ·simp [results, Tryz.results46, go_sem, s0, s1, s2, s3, s4, s5]
    ·exact HH.out.2.1 _ (((((((HF.out.setc (Nat.le_refl _) 0 _).setc (Nat.le_refl _) 1 _).setc (Nat.le_refl _) 2 _).setc (Nat.le_refl _) 3 _).setc (Nat.le_refl _) 4 _).setc (Nat.le_refl _) 5 _))
   ·have i6 : ¬ (4 : Int) ≤ ((xs.length - k : Nat) : Int) := by omega
    clear hpre
    obtain ⟨T, hT⟩ : ∃ T, upGo (xs.length - k) 3 [62] ((xs.drop k).drop 2) = T := ⟨_, rfl⟩
    have hTn : T.name = [] ∧ T.attrs = [] ∧ T.single = false := by rw [← hT]; exact upGo_plain _ _ _ _
    have C := RD
    rw [hT] at C
    have hok := hup T (by rw [← hT, hr]) hTn
    have HH := Lib.hid (And.intro C (And.intro hok (And.intro b1 x1)))
    clear C hok hT hr hTn
    clear b1 x1
    clear h RT RC RD hnn hup htg hcv4 h4 h256 hdx ht htl hx hc hNk hdl c2 hl1 hcw hlw
    generalize xs.length = N at *
    go_enter Tryz.func46, Tryz.ntmps46
    go_wp2_with fail
    refine (hcl _).mono ?_
    rintro r wq ⟨rfl, eq⟩
    obtain rfl := eq.symm
    go_wp2_with fail
    refine HH.out.1.mono ?_
    rintro r w2 ⟨rfl, hb2⟩
    have x2 : Cells w2 w.heap.size 83 #[.int .i64 0, .int .i64 0, .string ⟨#[]⟩, .slice none 0 0, .bool false, .bool false] := (hb2.block _ hz1).trans HH.out.2.2.2
    have s0 := x2.cell 0
    have s1 := x2.cell 1
    have s2 := x2.cell 2
    have s3 := x2.cell 3
    have s4 := x2.cell 4
    have s5 := x2.cell 5
    have t0 := x2.froz 0
    have t1 := x2.froz 1
    have t2 := x2.froz 2
    have t3 := x2.froz 3
    have t4 := x2.froz 4
    have t5 := x2.froz 5
    simp at s0 s1 s2 s3 s4 s5
    have hb3 : Below w.heap.size w w2 := HH.out.2.2.1.trans (hb2.mono (Nat.le_of_lt hz1))
    have HF := Lib.hid hb3
    clear hb2 hb3 x2
    go_wp2_with fail
    refine bodyPost_ret (v := .tuple #[.agg #[.int .i64 (T.kind : Int), .int .i64 (T.size : Int), .string ⟨#[]⟩, .slice none 0 0, .bool false, .bool T.closed], .bool true]) ?_ rfl ?_
    ·simp [results, Tryz.results46, go_sem, s0, s1, s2, s3, s4, s5]
    ·exact HH.out.2.1 _ (((((((HF.out.setc (Nat.le_refl _) 0 _).setc (Nat.le_refl _) 1 _).setc (Nat.le_refl _) 2 _).setc (Nat.le_refl _) 3 _).setc (Nat.le_refl _) 4 _).setc (Nat.le_refl _) 5 _))
  ·clear h47 b47
   by_cases h4l : 4 ≤ xs.length - k
   ·obtain ⟨SA, hcv, hl9⟩ := hpre h4l _ b1
    have i6 : (4 : Int) ≤ ((xs.length - k : Nat) : Int) := by omega
    clear hpre
    obtain ⟨T, hT⟩ : ∃ T, upGo (xs.length - k) 3 [62] ((xs.drop k).drop 2) = T := ⟨_, rfl⟩
    have hTn : T.name = [] ∧ T.attrs = [] ∧ T.single = false := by rw [← hT]; exact upGo_plain _ _ _ _
    have C := RD
    rw [hT] at C
    have hok := hup T (by rw [← hT, hr]) hTn
    have HH := Lib.hid (And.intro C (And.intro hok (And.intro b1 x1)))
    clear C hok hT hr hTn
    clear b1 x1
    clear h RT RC RD hnn hup htg hcv4 h4 h256 hdx ht htl hx hc hNk hdl c2 hl1 hcw hlw
    generalize xs.length = N at *
    go_enter Tryz.func46, Tryz.ntmps46
    go_wp2_with fail
    refine (hcl _).mono ?_
    rintro r wq ⟨rfl, eq⟩
    obtain rfl := eq.symm
    go_wp2_with fail
    refine HH.out.1.mono ?_
    rintro r w2 ⟨rfl, hb2⟩
    have x2 : Cells w2 w.heap.size 83 #[.int .i64 0, .int .i64 0, .string ⟨#[]⟩, .slice none 0 0, .bool false, .bool false] := (hb2.block _ hz1).trans HH.out.2.2.2
    have s0 := x2.cell 0
    have s1 := x2.cell 1
    have s2 := x2.cell 2
    have s3 := x2.cell 3
    have s4 := x2.cell 4
    have s5 := x2.cell 5
    have t0 := x2.froz 0
    have t1 := x2.froz 1
    have t2 := x2.froz 2
    have t3 := x2.froz 3
    have t4 := x2.froz 4
    have t5 := x2.froz 5
    simp at s0 s1 s2 s3 s4 s5
    have hb3 : Below w.heap.size w w2 := HH.out.2.2.1.trans (hb2.mono (Nat.le_of_lt hz1))
    have HF := Lib.hid hb3
    clear hb2 hb3 x2
    go_wp2_with fail
    refine bodyPost_ret (v := .tuple #[.agg #[.int .i64 (T.kind : Int), .int .i64 (T.size : Int), .string ⟨#[]⟩, .slice none 0 0, .bool false, .bool T.closed], .bool true]) ?_ rfl ?_
    ·simp [results, Tryz.results46, go_sem, s0, s1, s2, s3, s4, s5]
    ·exact HH.out.2.1 _ (((((((HF.out.setc (Nat.le_refl _) 0 _).setc (Nat.le_refl _) 1 _).setc (Nat.le_refl _) 2 _).setc (Nat.le_refl _) 3 _).setc (Nat.le_refl _) 4 _).setc (Nat.le_refl _) 5 _))
   ·have i6 : ¬ (4 : Int) ≤ ((xs.length - k : Nat) : Int) := by omega
    clear hpre
    obtain ⟨T, hT⟩ : ∃ T, upGo (xs.length - k) 3 [62] ((xs.drop k).drop 2) = T := ⟨_, rfl⟩
    have hTn : T.name = [] ∧ T.attrs = [] ∧ T.single = false := by rw [← hT]; exact upGo_plain _ _ _ _
    have C := RD
    rw [hT] at C
    have hok := hup T (by rw [← hT, hr]) hTn
    have HH := Lib.hid (And.intro C (And.intro hok (And.intro b1 x1)))
    clear C hok hT hr hTn
    clear b1 x1
    clear h RT RC RD hnn hup htg hcv4 h4 h256 hdx ht htl hx hc hNk hdl c2 hl1 hcw hlw
    generalize xs.length = N at *
    go_enter Tryz.func46, Tryz.ntmps46
    go_wp2_with fail
    refine (hcl _).mono ?_
    rintro r wq ⟨rfl, eq⟩
    obtain rfl := eq.symm
    go_wp2_with fail
    refine HH.out.1.mono ?_
    rintro r w2 ⟨rfl, hb2⟩
    have x2 : Cells w2 w.heap.size 83 #[.int .i64 0, .int .i64 0, .string ⟨#[]⟩, .slice none 0 0, .bool false, .bool false] := (hb2.block _ hz1).trans HH.out.2.2.2
    have s0 := x2.cell 0
    have s1 := x2.cell 1
    have s2 := x2.cell 2
    have s3 := x2.cell 3
    have s4 := x2.cell 4
    have s5 := x2.cell 5
    have t0 := x2.froz 0
    have t1 := x2.froz 1
    have t2 := x2.froz 2
    have t3 := x2.froz 3
    have t4 := x2.froz 4
    have t5 := x2.froz 5
    simp at s0 s1 s2 s3 s4 s5
    have hb3 : Below w.heap.size w w2 := HH.out.2.2.1.trans (hb2.mono (Nat.le_of_lt hz1))
    have HF := Lib.hid hb3
    clear hb2 hb3 x2
    go_wp2_with fail
    refine bodyPost_ret (v := .tuple #[.agg #[.int .i64 (T.kind : Int), .int .i64 (T.size : Int), .string ⟨#[]⟩, .slice none 0 0, .bool false, .bool T.closed], .bool true]) ?_ rfl ?_
    ·simp [results, Tryz.results46, go_sem, s0, s1, s2, s3, s4, s5]
    ·exact HH.out.2.1 _ (((((((HF.out.setc (Nat.le_refl _) 0 _).setc (Nat.le_refl _) 1 _).setc (Nat.le_refl _) 2 _).setc (Nat.le_refl _) 3 _).setc (Nat.le_refl _) 4 _).setc (Nat.le_refl _) 5 _))
 case neg =>
  have hr : rdT (xs.drop k) = none := by
   rw [hdx]
   have h1 : ¬ (c = 47 ∧ (t.head?.map ltrB) = some true) := fun h => h47 h.1
   have h2 : ¬ (c = 33 ∨ c = 63 ∨ c = 47) := by omega
   simp only [rdT, hcf, if_neg h1, if_neg hco, if_neg h2, ne_eq, not_true_eq_false, if_false, Bool.false_eq_true]
  have b33 : ((c : Int) == 33) = false := by rw [beq_eq_false_iff_ne]; omega
  have b63 : ((c : Int) == 63) = false := by rw [beq_eq_false_iff_ne]; omega
  clear hco hcf hlt2 h47 h33
  by_cases h4l : 4 ≤ xs.length - k
  ·obtain ⟨SA, hcv, hl9⟩ := hpre h4l _ b1
   have i6 : (4 : Int) ≤ ((xs.length - k : Nat) : Int) := by omega
   clear hpre
   have hok := fun w' => hnn w' hr
   have HH := Lib.hid (And.intro hok b1)
   clear hok hr
   clear b1 x1
   clear h RT RC RD hnn hup htg hcv4 h4 h256 hdx ht htl hx hc hNk hdl c2 hl1 hcw hlw
   generalize xs.length = N at *
   go_enter Tryz.func46, Tryz.ntmps46
   go_wp2_with fail
   refine (hcl _).mono ?_
   rintro r wq ⟨rfl, eq⟩
   obtain rfl := eq.symm
   go_wp2_with fail
   refine bodyPost_ret (v := .tuple #[.agg #[.int .i64 0, .int .i64 0, .string ⟨#[]⟩, .slice none 0 0, .bool false, .bool false], .bool false]) ?_ rfl ?_
   ·simp [results, Tryz.results46, go_sem]
   ·exact HH.out.1 _ HH.out.2
  ·have i6 : ¬ (4 : Int) ≤ ((xs.length - k : Nat) : Int) := by omega
   clear hpre
   have hok := fun w' => hnn w' hr
   have HH := Lib.hid (And.intro hok b1)
   clear hok hr
   clear b1 x1
   clear h RT RC RD hnn hup htg hcv4 h4 h256 hdx ht htl hx hc hNk hdl c2 hl1 hcw hlw
   generalize xs.length = N at *
   go_enter Tryz.func46, Tryz.ntmps46
   go_wp2_with fail
   refine (hcl _).mono ?_
   rintro r wq ⟨rfl, eq⟩
   obtain rfl := eq.symm
   go_wp2_with fail
   refine bodyPost_ret (v := .tuple #[.agg #[.int .i64 0, .int .i64 0, .string ⟨#[]⟩, .slice none 0 0, .bool false, .bool false], .bool false]) ?_ rfl ?_
   ·simp [results, Tryz.results46, go_sem]
   ·exact HH.out.1 _ HH.out.2
end Go.Proofs.YtfafhbgkmlmmdaaGreatDoor.G
namespace Go.Proofs.YtfafhbgkmlmmdaaGreatDoor
open Go.RowKit Go.Shelf Go.Lib Go.Maps Go.Great
attribute [local irreducible] NR ZNR FR nmE
def closT (xs : List Nat) (k : Nat) : Bool := match G.rdT (xs.drop k) with
 | some T => T.closed
 | none => false
def refC (x : TK) (cl : Bool) : Array Value := #[.int .i64 (x.kind : Int), .int .i64 (x.fr : Int), .int .i64 (x.to : Int), .string ⟨(G.u8s x.name).toArray⟩, .int .i32 x.r, .bool x.sg, .bool cl]
theorem begins_any (xs : List Nat) (A : Option Addr) (cap : Nat) (k : Nat) (w : World) (hx : BY w w.heap.size xs A cap) (hl : xs.length ≤ 1000) (hk : k < xs.length) :
  Calls Tryz.prog 44 #[.slice A xs.length cap, .int .i64 (k : Int)] w fun e w' => e = .returned (.agg (refC ((markT xs k).getD tkZ) (closT xs k))) ∧ Below w.heap.size w w' := by
 have b1 := below_new w (.cells #[.int .i64 0, .int .i64 0, .int .i64 0, .string ⟨#[]⟩, .int .i32 0, .bool false, .bool false] 39)
 obtain ⟨W1, hW1⟩ : ∃ W, w.alloc (.cells #[.int .i64 0, .int .i64 0, .int .i64 0, .string ⟨#[]⟩, .int .i32 0, .bool false, .bool false] 39) = W := ⟨_, rfl⟩
 have x1 : Cells W1 w.heap.size 39 #[.int .i64 0, .int .i64 0, .int .i64 0, .string ⟨#[]⟩, .int .i32 0, .bool false, .bool false] := by rw [← hW1]; exact cells_new _ _ _
 rw [hW1] at b1
 have C1 := G.refRead_any xs A cap (k : Int) W1 ((hx.on b1).g) (by omega)
 have hrd : G.rdAt xs (k : Int) = G.rdT (xs.drop k) := by unfold G.rdAt; rw [if_neg (by omega), Int.toNat_natCast]
 rw [hrd] at C1
 have hle := readE_le xs k (by omega)
 have hrt := (readT_size (xs.drop k)).1
 have h256 : ∀ x ∈ xs, x < 256 := hx.i
 have hsame := read_same xs h256 k hk
 obtain ⟨O, hO⟩ : ∃ o, G.rdT (xs.drop k) = o := ⟨_, rfl⟩
 obtain ⟨MT, hMT⟩ : ∃ o, markT xs k = o := ⟨_, rfl⟩
 obtain ⟨CL, hCL⟩ : ∃ o, closT xs k = o := ⟨_, rfl⟩
 rw [hO] at C1
 rw [hMT, hCL]
 unfold closT at hCL
 rw [hO] at hCL
 have C2 := fun W (hb : Below w.heap.size w W) => refReadE_any W xs A cap (hx.on hb) hl k hk
 have C3 := fun W (hb : Below w.heap.size w W) => refRead_any xs A cap (k : Int) W (hx.on hb)
 have hra : readAt xs (k : Int) = readT (xs.drop k) := by unfold readAt; rw [if_neg (by omega), Int.toNat_natCast]
 rw [← hsame] at C2
 rw [hra] at C3
 obtain ⟨N, hN⟩ : ∃ N, xs.length = N := ⟨_, rfl⟩
 rw [List.length_drop, hN] at hrt
 rw [hN] at C1 C2 C3 hl hk hle ⊢
 have hmk := fun x => mark_to (xs := xs) (x := x) (k := k) (by omega)
 have hN1 := hN
 have HH := Lib.hid (And.intro C1 (And.intro b1 (And.intro x1 (And.intro hO (And.intro hMT (And.intro hN1 hmk))))))
 have HC := Lib.hid (And.intro C2 C3)
 clear C1 C2 C3 b1 x1 hO hMT hmk hrd hra hsame h256 hx hN1 hN
 go_enter Tryz.func44, Tryz.ntmps44
 go_wp2_with fail
 refine HH.out.1.mono ?_
 rintro e w2 ⟨v, rfl, hown, hb2⟩
 obtain ⟨A9, n9, c9, rfl⟩ : ∃ A n c, v = .slice A n c := by
  rcases hown.2 with ⟨h1, _⟩ | ⟨g, cp, cur, h1, _⟩
  ·exact ⟨_, _, _, h1⟩
  ·exact ⟨_, _, _, h1⟩
 have bw2 := HH.out.2.1.trans (hb2.mono HH.out.2.1.size)
 have x2 := HH.out.2.2.1.on hb2
 clear hown hb2 hW1
 have hlt2 := x2.lt
 have q0 := x2.cell 0
 have q1 := x2.cell 1
 have q2 := x2.cell 2
 have q3 := x2.cell 3
 have q4 := x2.cell 4
 have q5 := x2.cell 5
 have q6 := x2.cell 6
 have g0 := x2.froz 0
 have g1 := x2.froz 1
 have g2 := x2.froz 2
 have g3 := x2.froz 3
 have g4 := x2.froz 4
 have g5 := x2.froz 5
 have g6 := x2.froz 6
 simp at q0 q1 q2 q3 q4 q5 q6
 have hsetc : ∀ Z : World, Below w.heap.size w Z → ∀ (a0 a1 a2 a3 a4 a5 a6 : Value), Below w.heap.size w (((((((Z.setCell ⟨w.heap.size, 0, none⟩ a0).setCell ⟨w.heap.size, 1, none⟩ a1).setCell ⟨w.heap.size, 2, none⟩ a2).setCell ⟨w.heap.size, 3, none⟩ a3).setCell ⟨w.heap.size, 4, none⟩ a4).setCell ⟨w.heap.size, 5, none⟩ a5).setCell ⟨w.heap.size, 6, none⟩ a6) := fun Z hz a0 a1 a2 a3 a4 a5 a6 =>
  ((((((hz.setc (Nat.le_refl _) 0 _).setc (Nat.le_refl _) 1 _).setc (Nat.le_refl _) 2 _).setc (Nat.le_refl _) 3 _).setc (Nat.le_refl _) 4 _).setc (Nat.le_refl _) 5 _).setc (Nat.le_refl _) 6 _
 have HS := Lib.hid (@hsetc)
 clear hsetc
 cases O with
 | some T =>
  obtain ⟨f1, f2, f3⟩ := rdT_facts HH.out.2.2.2.1
  rw [List.length_drop, HH.out.2.2.2.2.2.1] at f3
  have hmt : MT = some ⟨T.kind + 2, k, k + T.size, T.name, 0, T.single⟩ := by
   rw [← HH.out.2.2.2.2.1, markT, HH.out.2.2.2.1]
  have hcl : T.closed = CL := hCL
  simp only [Option.getD_some, Option.isSome_some]
  unfold G.tagV
  obtain ⟨kd, hkd⟩ : ∃ n, T.kind = n := ⟨_, rfl⟩
  obtain ⟨sz, hsz⟩ : ∃ n, T.size = n := ⟨_, rfl⟩
  obtain ⟨sg, hsg⟩ : ∃ n, T.single = n := ⟨_, rfl⟩
  obtain ⟨nm, hnm⟩ : ∃ n, T.name = n := ⟨_, rfl⟩
  rw [hkd] at f1
  rw [hsz] at f3
  rw [hkd, hsz, hnm, hsg] at hmt
  rw [hkd, hsz, hsg, hcl, hnm]
  unfold G.strV
  obtain ⟨SN, hSN⟩ : ∃ Sx : ByteArray, ⟨(G.u8s nm).toArray⟩ = Sx := ⟨_, rfl⟩
  rw [hSN]
  have HM := Lib.hid (And.intro hmt hSN)
  have HB := Lib.hid (And.intro bw2 x2)
  clear hmt hSN hkd hsz hsg hcl hnm bw2 x2 hCL
  go_wp2_with fail
  refine bodyPost_ret (v := .agg (refC (MT.getD tkZ) CL)) ?_ rfl ⟨rfl, ?_⟩
  ·rw [HM.out.1, ← HM.out.2]
   simp [results, Tryz.results44, go_sem, q0, q1, q2, q3, q4, q5, q6, hlt2, refC]
  ·have := HS.out w2 HB.out.1 (.int .i64 ((kd : Int) + 2)) (.int .i64 (k : Int)) (.int .i64 ((k : Int) + (sz : Int))) (.string SN) (.int .i32 0) (.bool sg) (.bool CL)
   exact this.trans ((below_new _ _).mono this.size)
 | none =>
  have hcl : CL = false := hCL.symm
  subst hcl
  simp only [Option.getD_none, Option.isSome_none]
  unfold G.tg0 G.tagV G.strV
  have hmt : MT = if 0 < (readE xs k).2 then some ⟨1, k, k + (readE xs k).2, [], (readE xs k).1, false⟩ else if 0 < (readT (xs.drop k)).size then some ⟨6, k, k + (readT (xs.drop k)).size, [], 0, false⟩ else none := by
   rw [← HH.out.2.2.2.2.1, markT, HH.out.2.2.2.1]
  have C2 := HC.out.1
  have C3 := HC.out.2
  obtain ⟨RE, hRE⟩ : ∃ v, readE xs k = v := ⟨_, rfl⟩
  obtain ⟨ES, hES⟩ : ∃ v, readT (xs.drop k) = v := ⟨_, rfl⟩
  rw [hRE] at C2 hmt hle
  rw [hES] at C3 hmt hrt
  obtain ⟨r1, n1⟩ := RE
  obtain ⟨s1, wh1, op1, la1⟩ := ES
  unfold escV at C3
  dsimp only at C2 C3 hmt hle hrt
  have HC2 := Lib.hid (And.intro C2 (And.intro C3 hmt))
  have HB := Lib.hid (And.intro bw2 x2)
  clear C2 C3 hmt hRE hES bw2 x2 hCL HC
  go_upto_region 4 with fail
  clear q0 q1 q2 q3 q4 q5 q6 g0 g1 g2 g3 g4 g5 g6 hlt2
  generalize hW3 : w2.alloc (.cells _ 83) = W3
  have b3 : Below w2.heap.size w2 W3 := by rw [← hW3]; exact below_new _ _
  have bw3 := HB.out.1.trans (b3.mono HB.out.1.size)
  have H3 := Lib.hid (And.intro bw3 (HB.out.2.on b3))
  have C2 := HC2.out.1 W3 bw3
  clear hW3 b3 bw3
  go_wp2_with fail
  refine C2.mono ?_
  rintro e w4 ⟨rfl, hb4⟩
  have bw4 := H3.out.1.trans (hb4.mono H3.out.1.size)
  have x4 := H3.out.2.on hb4
  have H4 := Lib.hid (And.intro bw4 x4)
  clear hb4 C2
  by_cases hn : 0 < n1
  ·have i1 : (0 : Int) < (n1 : Int) := by omega
   have i2 : (k : Int) + (n1 : Int) ≤ 200000 := by omega
   have hmt := HC2.out.2.2
   rw [if_pos hn] at hmt
   have HM := Lib.hid hmt
   have q0 := x4.cell 0
   have q1 := x4.cell 1
   have q2 := x4.cell 2
   have q3 := x4.cell 3
   have q4 := x4.cell 4
   have q5 := x4.cell 5
   have q6 := x4.cell 6
   have g0 := x4.froz 0
   have g1 := x4.froz 1
   have g2 := x4.froz 2
   have g3 := x4.froz 3
   have g4 := x4.froz 4
   have g5 := x4.froz 5
   have g6 := x4.froz 6
   have hlt := x4.lt
   simp at q0 q1 q2 q3 q4 q5 q6
   clear bw4 x4 hmt hn
   go_wp2_with fail
   refine bodyPost_ret (v := .agg (refC (MT.getD tkZ) false)) ?_ rfl ⟨rfl, ?_⟩
   ·rw [HM.out]
    simp [results, Tryz.results44, go_sem, q0, q1, q2, q3, q4, q5, q6, refC, G.u8s]
   ·exact HS.out w4 H4.out.1 _ _ _ _ _ _ _
  ·have i1 : ¬ (0 : Int) < (n1 : Int) := by omega
   have hmt := HC2.out.2.2
   rw [if_neg hn] at hmt
   have C3 := HC2.out.2.1 w4 bw4
   clear bw4 x4 hn
   go_wp2_with fail
   refine C3.mono ?_
   rintro e w5 ⟨rfl, hb5⟩
   have bw5 := H4.out.1.trans (hb5.mono H4.out.1.size)
   have x5 := H4.out.2.on hb5
   clear hb5 C3
   have H5 := Lib.hid (And.intro bw5 x5)
   clear bw5 x5
   go_upto_region 8 with fail
   generalize hW6 : w5.alloc (.cells #[.int .i64 (s1 : Int), .bool wh1, .bool op1, .int .u8 (la1 : Int)] 79) = W6
   have b6 : Below w5.heap.size w5 W6 := by rw [← hW6]; exact below_new _ _
   have e6 : Cells W6 w5.heap.size 79 #[.int .i64 (s1 : Int), .bool wh1, .bool op1, .int .u8 (la1 : Int)] := by rw [← hW6]; exact cells_new _ _ _
   have x6 := H5.out.2.on b6
   have H6 := Lib.hid (H5.out.1.trans (b6.mono H5.out.1.size))
   have p0 := e6.cell 0
   simp at p0
   have q0 := x6.cell 0
   have q1 := x6.cell 1
   have q2 := x6.cell 2
   have q3 := x6.cell 3
   have q4 := x6.cell 4
   have q5 := x6.cell 5
   have q6 := x6.cell 6
   have g0 := x6.froz 0
   have g1 := x6.froz 1
   have g2 := x6.froz 2
   have g3 := x6.froz 3
   have g4 := x6.froz 4
   have g5 := x6.froz 5
   have g6 := x6.froz 6
   have hlt := x6.lt
   simp at q0 q1 q2 q3 q4 q5 q6
   clear hW6 b6 e6 x6
   by_cases hs : 0 < s1
   ·have i3 : (0 : Int) < (s1 : Int) := by omega
    have i4 : (k : Int) + (s1 : Int) ≤ 200000 := by omega
    rw [if_pos hs] at hmt
    have HM := Lib.hid hmt
    clear hmt hs
    go_wp2_with fail
    refine bodyPost_ret (v := .agg (refC (MT.getD tkZ) false)) ?_ rfl ⟨rfl, ?_⟩
    ·rw [HM.out]
     simp [results, Tryz.results44, go_sem, q0, q1, q2, q3, q4, q5, q6, refC, G.u8s]
    ·exact HS.out W6 H6.out _ _ _ _ _ _ _
   ·have i3 : ¬ (0 : Int) < (s1 : Int) := by omega
    rw [if_neg hs] at hmt
    have HM := Lib.hid hmt
    clear hmt hs
    go_wp2_with fail
    refine bodyPost_ret (v := .agg (refC (MT.getD tkZ) false)) ?_ rfl ⟨rfl, ?_⟩
    ·rw [HM.out]
     simp [results, Tryz.results44, go_sem, q0, q1, q2, q3, q4, q5, q6, refC, tkZ, G.u8s]
    ·exact HS.out W6 H6.out _ _ _ _ _ _ _
def restF (xs : List Nat) (e k : Nat) : List TK := outF e (marksL xs k) ++ txs (endF e (marksL xs k)) xs.length
theorem restF_same (xs : List Nat) (k : Nat) : restF xs k k = fromF xs k := rfl
theorem restF_none {xs : List Nat} {e k : Nat} (h : k < xs.length) (hm : markT xs k = none) : restF xs e k = restF xs e (k + 1) := by
 unfold restF
 rw [marksL_none h hm]
theorem restF_end {xs : List Nat} {e k : Nat} (h : ¬ k < xs.length) : restF xs e k = txs e xs.length := by
 unfold restF
 rw [marksL_end h]
 rfl
theorem restF_some {xs : List Nat} {e k : Nat} {t : TK} (h : k < xs.length) (hm : markT xs k = some t) : restF xs e k = txs e k ++ (t :: (rawTok xs t ++ fromF xs (rawT xs t))) := by
 have h1 := mark_to (by omega) hm
 have h2 := rawT_le (xs := xs) (x := t) h1.2.2.1
 by_cases hr : t.to < rawT xs t
 ·have e1 : rawTok xs t = [⟨7, t.to, rawT xs t, [], 0, false⟩] := by unfold rawTok; rw [if_pos hr]
  have e3 : txs t.to t.to = [] := by unfold txs; rw [if_neg (Nat.lt_irrefl _)]
  unfold restF fromF
  rw [marksL_some h hm, e1]
  show (txs e t.fr ++ (t :: (txs t.to t.to ++ (⟨7, t.to, rawT xs t, [], 0, false⟩ :: outF (rawT xs t) (marksL xs (rawT xs t)))))) ++ txs (endF (rawT xs t) (marksL xs (rawT xs t))) xs.length = _
  rw [e3, h1.1]
  simp
 ·have e1 : rawTok xs t = [] := by unfold rawTok; rw [if_neg hr]
  have e4 : rawT xs t = t.to := by omega
  unfold restF fromF
  rw [marksL_some h hm, e1, e4]
  show (txs e t.fr ++ (t :: outF t.to (marksL xs t.to))) ++ txs (endF t.to (marksL xs t.to)) xs.length = _
  rw [h1.1]
  simp
def StA (xs : List Nat) (k : Nat) (l : List TK) : Prop := ∃ l' e, e ≤ k ∧ l = l' ++ txs e k ∧ eachL xs = l' ++ restF xs e k ∧ (l' = [] ∨ ∃ m y, l' = m ++ [y] ∧ y.kind ≠ 0)
def StC (xs : List Nat) (k : Nat) (l : List TK) (nm : List Nat) : Prop := ∃ l' t, l = l' ++ [t] ∧ nm = t.name ∧ t.to = k ∧ t.kind = 2 ∧ isRaw t = true ∧ eachL xs = l ++ (rawTok xs t ++ fromF xs (rawT xs t))
theorem stA_zero (xs : List Nat) : StA xs 0 [] := ⟨[], 0, Nat.le_refl _, rfl, rfl, .inl rfl⟩
theorem stA_end {xs : List Nat} {k : Nat} {l : List TK} (h : StA xs k l) (hk : k = xs.length) : l = eachL xs := by
 obtain ⟨l', e, h1, h2, h3, _⟩ := h
 rw [h3, restF_end (by omega), h2, hk]
theorem stA_none {xs : List Nat} {k : Nat} {l : List TK} (h : StA xs k l) (hk : k < xs.length) (hm : markT xs k = none) :
  (∃ l' e, e < k ∧ l = l' ++ [txT e k] ∧ StA xs (k + 1) (l' ++ [txT e (k + 1)])) ∨ ((l = [] ∨ ∃ m y, l = m ++ [y] ∧ y.kind ≠ 0) ∧ StA xs (k + 1) (l ++ [txT k (k + 1)])) := by
 obtain ⟨l', e, h1, h2, h3, h4⟩ := h
 have h5 : StA xs (k + 1) (l' ++ [txT e (k + 1)]) := ⟨l', e, by omega, by unfold txs; rw [if_pos (by omega)], by rw [h3, restF_none hk hm], h4⟩
 by_cases c : e < k
 ·exact .inl ⟨l', e, c, by rw [h2]; unfold txs; rw [if_pos c], h5⟩
 ·obtain rfl : e = k := by omega
  have e1 : txs e e = [] := by unfold txs; rw [if_neg (Nat.lt_irrefl _)]
  rw [e1, List.append_nil] at h2
  subst h2
  exact .inr ⟨h4, h5⟩
theorem stA_some {xs : List Nat} {k : Nat} {l : List TK} {t : TK} (h : StA xs k l) (hk : k < xs.length) (hm : markT xs k = some t) (hr : isRaw t = false ∨ closT xs k = false) : StA xs t.to (l ++ [t]) := by
 obtain ⟨l', e, h1, h2, h3, h4⟩ := h
 have m1 := mark_to (by omega) hm
 have hrt : rawT xs t = t.to := by
  rcases hr with hr | hr
  ·exact not_raw hr xs
  ·cases hi : isRaw t with
   | false => exact not_raw hi xs
   | true =>
    have h2 := rawT_le (xs := xs) (x := t) m1.2.2.1
    have hk2 := isRaw_kind hi
    have : t.to = xs.length := by
     unfold markT at hm
     unfold closT at hr
     cases hT : G.rdT (xs.drop k) with
     | none =>
      rw [hT] at hm
      dsimp only at hm
      split at hm
      ·cases hm
       cases hk2
      ·split at hm
       ·cases hm
        cases hk2
       ·cases hm
     | some T =>
      rw [hT] at hm hr
      cases hm
      have hk0 : T.kind = 0 := by have : T.kind + 2 = 2 := hk2; omega
      have := rdT_closed hT hk0 hr
      rw [List.length_drop] at this
      show k + T.size = xs.length
      omega
    omega
 have e1 : rawTok xs t = [] := by unfold rawTok; rw [if_neg (by omega)]
 refine ⟨l' ++ txs e k ++ [t], t.to, Nat.le_refl _, ?_, ?_, .inr ⟨_, t, rfl, by omega⟩⟩
 ·rw [h2]
  unfold txs
  simp
 ·rw [h3, restF_some hk hm, e1, hrt, restF_same]
  simp
theorem stA_tag {xs : List Nat} {k : Nat} {l : List TK} {t : TK} (h : StA xs k l) (hk : k < xs.length) (hm : markT xs k = some t) (hr : isRaw t = true) : StC xs t.to (l ++ [t]) t.name := by
 obtain ⟨l', e, h1, h2, h3, h4⟩ := h
 refine ⟨l, t, rfl, rfl, rfl, isRaw_kind hr, hr, ?_⟩
 rw [h3, restF_some hk hm, h2]
 simp
theorem stC_end {xs : List Nat} {k : Nat} {l : List TK} {nm : List Nat} (h : StC xs k l nm) (hk : k = xs.length) : l = eachL xs := by
 obtain ⟨l', t, h1, h2, h3, h4, h5, h6⟩ := h
 have h7 := rawT_le (xs := xs) (x := t) (by omega)
 have e1 : rawTok xs t = [] := by unfold rawTok; rw [if_neg (by omega)]
 rw [h6, e1, fromF_end (by omega) h7.2]
 simp
theorem stC_ends {xs : List Nat} {k : Nat} {l : List TK} {nm : List Nat} (h : StC xs k l nm) (hk : k < xs.length) (he : endR (xs.drop k) nm = true) : StA xs k l := by
 obtain ⟨l', t, h1, h2, h3, h4, h5, h6⟩ := h
 have hrt : rawT xs t = k := by
  unfold rawT
  rw [if_pos h5, h3, scanR_at hk, ← h2, he]
  rfl
 have e1 : rawTok xs t = [] := by unfold rawTok; rw [if_neg (by omega)]
 rw [e1, hrt] at h6
 refine ⟨l, k, Nat.le_refl _, ?_, by rw [restF_same]; exact h6, .inr ⟨l', t, h1, by omega⟩⟩
 unfold txs
 simp
theorem scanR_gt {nm xs : List Nat} {k : Nat} (hk : k < xs.length) (he : endR (xs.drop k) nm = false) : k < scanR nm (xs.drop k) k := by
 rw [scanR_at hk, he]
 have := scanR_le nm (xs.drop (k + 1)) (k + 1)
 simp only [Bool.false_eq_true, if_false]
 omega
theorem stC_raw {xs : List Nat} {k : Nat} {l : List TK} {nm : List Nat} (h : StC xs k l nm) (hk : k < xs.length) (he : endR (xs.drop k) nm = false) :
  StA xs (scanR nm (xs.drop k) k) (l ++ [⟨7, k, scanR nm (xs.drop k) k, [], 0, false⟩]) := by
 obtain ⟨l', t, h1, h2, h3, h4, h5, h6⟩ := h
 have hrt : rawT xs t = scanR nm (xs.drop k) k := by
  unfold rawT
  rw [if_pos h5, h3, ← h2]
 have hgt := scanR_gt hk he
 have e1 : rawTok xs t = [⟨7, k, scanR nm (xs.drop k) k, [], 0, false⟩] := by unfold rawTok; rw [if_pos (by omega), hrt, h3]
 rw [e1, hrt] at h6
 refine ⟨l ++ [⟨7, k, scanR nm (xs.drop k) k, [], 0, false⟩], scanR nm (xs.drop k) k, Nat.le_refl _, ?_, ?_, .inr ⟨l, _, rfl, by show 7 ≠ 0; omega⟩⟩
 ·unfold txs
  simp
 ·rw [restF_same, h6]
  simp
def rowF : List TK → List Value
 | [] => []
 | x :: r => (refC x false).toList ++ rowF r
theorem rowF_snoc (x : TK) : ∀ l : List TK, rowF (l ++ [x]) = rowF l ++ (refC x false).toList
 | [] => by simp [rowF]
 | t :: r => by
  show (refC t false).toList ++ rowF (r ++ [x]) = ((refC t false).toList ++ rowF r) ++ _
  rw [rowF_snoc x r]
  simp
theorem rowF_len : ∀ l : List TK, (rowF l).length = l.length * 7
 | [] => rfl
 | x :: r => by
  show ((refC x false).toList ++ rowF r).length = _
  rw [List.length_append, rowF_len r]
  simp [refC]
  omega
theorem rowF_at : ∀ (l : List TK) (i : Nat) (x : TK), l[i]? = some x → ∀ j, j < 7 → (rowF l)[i * 7 + j]? = (refC x false)[j]?
 | [], i, a, h, _, _ => by simp at h
 | x :: l, 0, a, h, j, hj => by
  simp at h
  subst h
  rw [show rowF (x :: l) = (refC x false).toList ++ rowF l from rfl, Nat.zero_mul, Nat.zero_add, List.getElem?_append_left (by simpa [refC] using hj)]
  simp
 | x :: l, i + 1, a, h, j, hj => by
  have ih := rowF_at l i a (by simpa using h) j hj
  rw [show rowF (x :: l) = (refC x false).toList ++ rowF l from rfl, List.getElem?_append_right (by simp [refC]; omega)]
  rw [← ih]
  congr 1
  simp [refC]
  omega
def OwnF (w : World) (base : Nat) (l : List TK) (v : Value) : Prop := w.ownsRow base 39 7 v l.length (rowF l)
theorem OwnF.below {w w' : World} {base : Nat} {l : List TK} {v : Value} (h : OwnF w base l v) (hb : Below w.heap.size w w') : OwnF w' base l v := ownsRow_below h hb
theorem ownF_nil (w : World) (base : Nat) : OwnF w base [] (.slice none 0 0) := ⟨rfl, .inl ⟨rfl, rfl⟩⟩
theorem OwnF.form {w : World} {base : Nat} {l : List TK} {v : Value} (h : OwnF w base l v) : ∃ A c, v = .slice A l.length c := by
 rcases h.2 with ⟨h1, h2⟩ | ⟨g, cap, cur, h1, _⟩
 ·exact ⟨none, 0, by rw [h1, h2]⟩
 ·exact ⟨_, _, h1⟩
theorem OwnF.cut {w : World} {base : Nat} {l : List TK} {y : TK} {A : Option Addr} {n c : Nat} (h : OwnF w base (l ++ [y]) (.slice A n c)) : OwnF w base l (.slice A l.length c) := by
 refine ⟨rowF_len l, ?_⟩
 rcases h.2 with ⟨_, h2⟩ | ⟨g, cap, cur, h1, h2, h3, h4, h5, h6, h7⟩
 ·simp at h2
 ·simp only [Value.slice.injEq] at h1
  obtain ⟨rfl, h8, rfl⟩ := h1
  refine .inr ⟨g, c, cur, rfl, h2, h3, by simp at h4; omega, h5, h6, ?_⟩
  have h9 := congrArg (List.take (l.length * 7)) h7
  rw [List.take_take, Nat.min_eq_left (by simp; omega), rowF_snoc, List.take_append_of_le_length (by rw [rowF_len]; exact Nat.le_refl _)] at h9
  rw [h9]
  exact List.take_of_length_le (by rw [rowF_len]; exact Nat.le_refl _)
theorem OwnF.cap {w : World} {base : Nat} {l : List TK} {A : Option Addr} {n c : Nat} (h : OwnF w base l (.slice A n c)) : l.length ≤ c := by
 rcases h.2 with ⟨h1, h2⟩ | ⟨g, cap, cur, h1, h2, h3, h4, h5, h6, h7⟩
 ·omega
 ·simp only [Value.slice.injEq] at h1
  obtain ⟨_, _, rfl⟩ := h1
  exact h4
theorem OwnF.some {w : World} {base : Nat} {l : List TK} {y : TK} {A : Option Addr} {n c : Nat} (h : OwnF w base (l ++ [y]) (.slice A n c)) : ∃ g, A = .some ⟨g, 0, none⟩ := by
 rcases h.2 with ⟨_, h2⟩ | ⟨g, cap, cur, h1, _⟩
 ·simp at h2
 ·simp only [Value.slice.injEq] at h1
  exact ⟨g, h1.1⟩
theorem OwnF.last {w : World} {base : Nat} {l : List TK} {y : TK} {A : Option Addr} {n c : Nat} (h : OwnF w base (l ++ [y]) (.slice A n c)) (g : Nat) (hA : A = .some ⟨g, 0, none⟩) :
  w.cell? ⟨g, l.length * 7, none⟩ = .some (.int .i64 (y.kind : Int)) ∧ w.cell? ⟨g, l.length * 7 + 1, none⟩ = .some (.int .i64 (y.fr : Int)) := by
 subst hA
 have hi : (l ++ [y])[l.length]? = .some y := by simp
 have c0 := World.ownsRow.cells h (g := g) rfl (l.length * 7 + 0) _ ((rowF_at _ _ _ hi 0 (by omega)).trans rfl)
 have c1 := World.ownsRow.cells h (g := g) rfl (l.length * 7 + 1) _ ((rowF_at _ _ _ hi 1 (by omega)).trans rfl)
 rw [add0] at c0 c1
 exact ⟨c0, c1⟩
theorem info33 : (Tryz.prog.info? 39).map (fun i => (i.zero.map (fun z => z.cells.size), i.size, i.bytes)) = some (some 7, 7, 48) := by kernel_rfl
theorem info33_parts : ∃ i z, Tryz.prog.info? 39 = some i ∧ i.zero = some z ∧ i.size = 7 ∧ i.bytes = 48 ∧ z.cells.size = 7 := by
 have h := info33
 cases e : Tryz.prog.info? 39 with
 | none => rw [e] at h; simp at h
 | some i =>
  rw [e] at h
  cases e2 : i.zero with
  | none => simp [e2] at h
  | some z =>
   simp [e2] at h
   exact ⟨i, z, rfl, e2, h.2.1, h.2.2, h.1⟩
theorem wpList_appF {ops : Array Oper} {rest : List Oper} {o : Oper} {a : Act} {w : World} {Q : Exit → Act → World → Prop} (hgd : o.guard = none) (s x : Operand)
  (ho : o.op = .call { callee := .builtin .append, args := #[s, x], argTypes := #[30, 30] }) (base : Nat) (v : Value) (l : List TK) (t : TK) (hs : a.eval s = v) (w0 : World) (h0 : OwnF w0 base l v) (hw0 : w0.alloc (.cells (refC t false) 39) = w)
  (hx : a.eval x = .slice (some ⟨w0.heap.size, 0, none⟩) 1 1) (h63 : l.length ≤ 1000000) (hbase : base ≤ w0.heap.size)
  (h : ∀ g cap w', OwnF w' base (l ++ [t]) (.slice (some ⟨g, 0, none⟩) (l.length + 1) cap) → Below base w0 w' → (∀ k, k < w0.heap.size → v.ownBlock ≠ some k → w'.heap[k]? = w0.heap[k]?) → wpList Tryz.prog ops Q rest (a.put o.dst (.slice (some ⟨g, 0, none⟩) (l.length + 1) cap)) w') : wpList Tryz.prog ops Q (o :: rest) a w := by
 obtain ⟨i, z, hi, hz, hs1, hb1, hz1⟩ := info33_parts
 subst hw0
 have al := below_new w0 (.cells (refC t false) 39)
 have hown := h0.below al
 have hsz : base ≤ (w0.alloc (.cells (refC t false) 39)).heap.size := by rw [World.size_alloc]; omega
 refine wpList_append_lies _ hgd s x 30 ho base 39 i _ 7 48 Tryz.underlying30 hi hz hs1 hb1 hz1 (by decide) v l.length (rowF l) hs hown ⟨w0.heap.size, 0, none⟩ 1 1 (refC t false).toList hx rfl (World.news_of_block (by simpa using heap_alloc_new w0 (.cells (refC t false) 39))) (fun u hu => ?_) (by decide) (by unfold maxLen; omega) (by omega) hsz _ rfl ?_
 ·simp [refC] at hu
  rcases hu with rfl | rfl | rfl | rfl | rfl | rfl | rfl <;> rfl
 ·intro g cap w' h1 h2 _ _
  refine h g cap w' ?_ ?_ (fun k hk hn => (h2.block k (by rw [World.size_alloc]; omega) (fun e => hn e.symm)).trans (al.block k hk))
  ·unfold OwnF
   rw [rowF_snoc, List.length_append]
   exact h1
  ·refine (al.mono hbase).trans ⟨h2.os, h2.tape, h2.output, h2.size, fun k hk => h2.block k (by omega) (fun e => by have := (own_block_lt hown k e.symm).1; omega)⟩
end Go.Proofs.YtfafhbgkmlmmdaaGreatDoor
