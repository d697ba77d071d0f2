/-
  Contract, the document's side: Read.
-/
import Derived.Test.YtplnkmojkdbbnaaRea
import Derived.Test.YtplnkmojkdbbnaaRup
import Derived.Test.YtplnkmojkdbbnaaRtg
namespace Go.Proofs.Ytplnkmojkdbbnaa
open Go.RowKit Go.Shelf Go.Lib Go.Maps Go.Sort

def RRdOk (w : World) (O : Option TG) (e : Ending) (w' : World) : Prop := ∃ v, e = .returned (.tuple #[tagV (O.getD tg0) v, .bool O.isSome]) ∧ OwnR w' w.heap.size (O.getD tg0).attrs v ∧ Below w.heap.size w w'
theorem rrdOk_none (w w' : World) (h : Below w.heap.size w w') : RRdOk w none (.returned (.tuple #[.agg #[.int .i64 0, .int .i64 0, .string ⟨#[]⟩, .slice none 0 0, .bool false, .bool false], .bool false])) w' := ⟨_, rfl, ownR_nil _ _, h⟩
theorem rrdOk_up {w : World} {O : Option TG} {T : TG} (hO : O = some T) (hT : T.name = [] ∧ T.attrs = [] ∧ T.single = false) : ∀ w', Below w.heap.size w w' → RRdOk w O (.returned (.tuple #[.agg #[.int .i64 (T.kind : Int), .int .i64 (T.size : Int), .string ⟨#[]⟩, .slice none 0 0, .bool false, .bool T.closed], .bool true])) w' := fun w' h => by
  subst hO
  refine ⟨.slice none 0 0, ?_, ?_, h⟩
  · show _ = Ending.returned (Value.tuple #[tagV T _, .bool true])
    unfold tagV
    rw [hT.1, hT.2.2]
    rfl
  · show OwnR _ _ T.attrs _
    rw [hT.2.1]
    exact ownR_nil _ _
theorem rrdOk_tag {w : World} {O : Option TG} {T : TG} (hO : O = some T) : ∀ v w', OwnR w' w.heap.size T.attrs v → Below w.heap.size w w' → RRdOk w O (.returned (.tuple #[tagV T v, .bool true])) w' := fun v w' h1 h2 => by
  subst hO
  exact ⟨v, rfl, h1, h2⟩
set_option maxHeartbeats 40000000 in
set_option maxRecDepth 100000 in
theorem refRead_any (xs : List Nat) (A : Option Addr) (cap : Nat) (I : Int) (w : World) (h : BY w w.heap.size xs A cap) (hl : xs.length ≤ 100000) :
    Calls Try.prog 10 #[.slice A xs.length cap, .int .i64 I] w (RRdOk w (rdAt xs I)) := by
  have hlen := h.len
  have hno : ∀ w', Below w.heap.size w w' → RRdOk w none (.returned (.tuple #[.agg #[.int .i64 0, .int .i64 0, .string ⟨#[]⟩, .slice none 0 0, .bool false, .bool false], .bool false])) w' := rrdOk_none w
  have b1 := below_new w (.cells #[.int .i64 0, .int .i64 0, .string ⟨#[]⟩, .slice none 0 0, .bool false, .bool false] 31)
  have x1 := cells_new w #[.int .i64 0, .int .i64 0, .string ⟨#[]⟩, .slice none 0 0, .bool false, .bool false] 31
  by_cases h0 : I < 0
  · have d0 : decide (I < 0) = true := by simpa using h0
    rw [show rdAt xs I = none by rw [rdAt, if_pos h0]]
    obtain ⟨Q, hQ⟩ : ∃ Q, RRdOk w none = Q := ⟨_, rfl⟩
    rw [hQ] at hno ⊢
    have HH := Lib.hid (And.intro hno b1)
    generalize xs.length = N at *
    clear h hno b1 x1 hQ
    go_enter Try.func10, Try.ntmps10
    go_wp2_with fail
    refine bodyPost_ret (v := .tuple #[.agg #[.int .i64 0, .int .i64 0, .string ⟨#[]⟩, .slice none 0 0, .bool false, .bool false], .bool false]) ?_ rfl ?_
    · simp [results, Try.results10, go_sem]
    · exact HH.out.1 _ HH.out.2
  have d0 : decide (I < 0) = false := by simpa using h0
  obtain ⟨k, rfl⟩ := Int.eq_ofNat_of_zero_le (show 0 ≤ I by omega)
  rw [show rdAt xs (k : Int) = rdT (xs.drop k) by rw [rdAt, if_neg h0, Int.toNat_natCast]]
  clear h0
  by_cases hlt : k < xs.length
  case neg =>
    have d1 : decide ((xs.length : Int) ≤ (k : Int)) = true := by simp; omega
    rw [List.drop_of_length_le (by omega)]
    show Calls Try.prog 10 #[.slice A xs.length cap, .int .i64 (k : Int)] w (RRdOk w none)
    obtain ⟨Q, hQ⟩ : ∃ Q, RRdOk w none = Q := ⟨_, rfl⟩
    rw [hQ] at hno ⊢
    have HH := Lib.hid (And.intro hno b1)
    generalize xs.length = N at *
    clear h hno b1 x1 hQ
    go_enter Try.func10, Try.ntmps10
    go_wp2_with fail
    refine bodyPost_ret (v := .tuple #[.agg #[.int .i64 0, .int .i64 0, .string ⟨#[]⟩, .slice none 0 0, .bool false, .bool false], .bool false]) ?_ rfl ?_
    · simp [results, Try.results10, go_sem]
    · exact HH.out.1 _ HH.out.2
  have d1 : decide ((xs.length : Int) ≤ (k : Int)) = false := by simp; omega
  obtain ⟨d, hx⟩ := at_lt (l := xs) (k := k) hlt
  obtain ⟨b, o, rfl, _, c0⟩ := h.at hx
  have hY := h.drop hlt
  have hcap := h.l
  have hmx := h.m
  unfold maxLen at hmx
  have hdl : (xs.drop k).length = xs.length - k := by simp
  have i1 : (k : Int) < (xs.length : Int) := by omega
  by_cases hd : d = 60
  case neg =>
    have dn : ((d : Int) != 60) = true := by rw [bne_iff_ne]; omega
    have hr : rdT (xs.drop k) = none := by
      rw [drop_at hx]
      cases xs.drop (k + 1) with
      | nil => rfl
      | cons c t => simp [rdT, hd]
    rw [hr]
    obtain ⟨Q, hQ⟩ : ∃ Q, RRdOk w none = Q := ⟨_, rfl⟩
    rw [hQ] at hno ⊢
    have HH := Lib.hid (And.intro hno b1)
    generalize xs.length = N at *
    clear h hno b1 x1 hQ hY hdl hd hr hx
    generalize (d : Int) = D at *
    go_enter Try.func10, Try.ntmps10
    go_wp2_with fail
    refine bodyPost_ret (v := .tuple #[.agg #[.int .i64 0, .int .i64 0, .string ⟨#[]⟩, .slice none 0 0, .bool false, .bool false], .bool false]) ?_ rfl ?_
    · simp [results, Try.results10, go_sem]
    · exact HH.out.1 _ HH.out.2
  subst hd
  by_cases hl1 : xs.length - k = 1
  · have hr : rdT (xs.drop k) = none := by
      rw [drop_at hx, List.drop_of_length_le (by omega)]
      rfl
    rw [hr]
    obtain ⟨Q, hQ⟩ : ∃ Q, RRdOk w none = Q := ⟨_, rfl⟩
    rw [hQ] at hno ⊢
    have HH := Lib.hid (And.intro hno b1)
    generalize xs.length = N at *
    have e9 : (((N - k : Nat) : Int) == 1) = true := by rw [hl1]; rfl
    clear h hno b1 x1 hQ hY hdl hr hx
    go_enter Try.func10, Try.ntmps10
    go_wp2_with fail
    refine bodyPost_ret (v := .tuple #[.agg #[.int .i64 0, .int .i64 0, .string ⟨#[]⟩, .slice none 0 0, .bool false, .bool false], .bool false]) ?_ rfl ?_
    · simp [results, Try.results10, go_sem]
    · exact HH.out.1 _ HH.out.2
  obtain ⟨c, hc⟩ := at_lt (l := xs) (k := k + 1) (by omega)
  have hdx : xs.drop k = 60 :: c :: xs.drop (k + 2) := by rw [drop_at hx, drop_at hc]
  obtain ⟨t, ht⟩ : ∃ t, xs.drop (k + 2) = t := ⟨_, rfl⟩
  have htl : t.length = xs.length - (k + 2) := by rw [← ht]; simp
  have c1 : w.cell? ⟨b, o + k + 1, none⟩ = some (.int .u8 (c : Int)) := by
    obtain ⟨b', o', e', _, e1⟩ := hY.at (i := 1) (x := c) (by rw [hdx]; rfl)
    obtain ⟨rfl, rfl⟩ : b = b' ∧ o + k = o' := by simpa using e'
    exact e1
  have c2 : ∀ e : Nat, t[0]? = some e → w.cell? ⟨b, o + k + 2, none⟩ = some (.int .u8 (e : Int)) := fun e he => by
    obtain ⟨b', o', e', _, e1⟩ := hY.at (i := 2) (x := e) (by rw [hdx, ht]; exact he)
    obtain ⟨rfl, rfl⟩ : b = b' ∧ o + k = o' := by simpa using e'
    exact e1
  have h4 : 4 ≤ xs.length - k → ((xs.drop k).take 4).length = 4 := fun h => by rw [List.length_take, hdl]; omega
  have hcv4 : 4 ≤ xs.length - k → ∀ W, Below w.heap.size w W → (convert 22 9 (.slice (some ⟨b, o + k, none⟩) 4 (cap - k))).run Try.prog W = .ok (.string ⟨(u8s ((xs.drop k).take 4)).toArray⟩) W := fun h W hb => by
    have hh := conv_by ((hY.on hb).take 4)
    rw [h4 h] at hh
    exact hh
  have h256 : ∀ x ∈ (xs.drop k).take 4, x < 256 := fun x hx => hY.i x (List.mem_of_mem_take hx)
  rw [ht] at hdx
  have hY1 := hY.on b1
  have RT := fun kind n (hn : n ≤ (xs.drop k).length) => refTag_any b (o + k) (cap - k) n kind (xs.drop k) _ hY1 hn (by omega)
  have RC := upToC_any b (o + k) (cap - k) (xs.drop k) _ hY1 (by omega)
  have RD := upToD_any b (o + k) (cap - k) (xs.drop k) _ hY1 (by omega)
  have hz1 : w.heap.size < (w.alloc (.cells #[.int .i64 0, .int .i64 0, .string ⟨#[]⟩, .slice none 0 0, .bool false, .bool false] 31)).heap.size := x1.lt
  have hnn : ∀ w', rdT (xs.drop k) = none → Below w.heap.size w w' → RRdOk w (rdT (xs.drop k)) (.returned (.tuple #[.agg #[.int .i64 0, .int .i64 0, .string ⟨#[]⟩, .slice none 0 0, .bool false, .bool false], .bool false])) w' := fun w' hr h => by
    rw [hr]; exact hno w' h
  have hup : ∀ T : TG, rdT (xs.drop k) = some T → _ := fun T hT => rrdOk_up (w := w) hT
  have htg : ∀ T : TG, rdT (xs.drop k) = some T → _ := fun T hT => rrdOk_tag (w := w) hT
  rw [hdl] at RC RD RT
  have hcw : ∀ W, Calls Try.prog 24 #[.int .u8 (c : Int)] W fun e w' => e = .returned (.bool (ltrB c)) ∧ w' = W := fun W => letter_any c W
  have hlw : ∀ e W, Calls Try.prog 24 #[.int .u8 ((e : Nat) : Int)] W fun r w' => r = .returned (.bool (ltrB e)) ∧ w' = W := fun e W => letter_any e W
  obtain ⟨Q, hQ⟩ : ∃ Q, RRdOk w (rdT (xs.drop k)) = Q := ⟨_, rfl⟩
  rw [hQ] at hnn hup htg ⊢
  have hNk : (t.length + 2) = xs.length - k := by omega
  clear hQ hno hY hY1
  have d9 : (((xs.length - k : Nat) : Int) == 1) = false := by rw [beq_eq_false_iff_ne]; omega
  have i5 : (1 : Int) < ((xs.length - k : Nat) : Int) := by omega
  by_cases hco : c = 33 ∧ t.take 2 = [45, 45]
  · obtain ⟨rfl, htt⟩ := hco
    have h2l : 2 ≤ t.length := by have := congrArg List.length htt; simp at this; omega
    have hr : rdT (xs.drop k) = some (upGo (xs.length - k) 2 [45, 45, 62] ((xs.drop k).drop 4)) := by
      rw [hdx, ← hNk]
      simp only [rdT, htt, show ltrB 33 = false from rfl, ne_eq, not_true_eq_false, if_false, Bool.false_eq_true, show ¬ (33 = 47) from by decide, false_and, and_self, if_true]
      rfl
    have ht4 : (xs.drop k).take 4 = [60, 33, 45, 45] := by
      rw [hdx]
      show 60 :: 33 :: t.take 2 = _
      rw [htt]
    have hcv := hcv4 (by omega) _ b1
    rw [ht4] at hcv
    have i6 : (4 : Int) ≤ ((xs.length - k : Nat) : Int) := by omega
    obtain ⟨T, hT⟩ : ∃ T, upGo (xs.length - k) 2 [45, 45, 62] ((xs.drop k).drop 4) = T := ⟨_, rfl⟩
    have hTn : T.name = [] ∧ T.attrs = [] ∧ T.single = false := by rw [← hT]; exact upGo_plain _ _ _ _
    have C := RC
    rw [hT] at C
    have hok := hup T (by rw [← hT, hr]) hTn
    have HH := Lib.hid (And.intro C (And.intro hok (And.intro b1 x1)))
    clear C hok hT hr hTn
    clear b1 x1
    clear h RT RC RD hnn hup htg hcv4 h4 h256 hdx ht htl hx hc hNk hdl c2 hl1 hcw hlw
    generalize xs.length = N at *
    go_enter Try.func10, Try.ntmps10
    go_wp2_with fail
    refine HH.out.1.mono ?_
    rintro r w2 ⟨rfl, hb2⟩
    have x2 : Cells w2 w.heap.size 31 #[.int .i64 0, .int .i64 0, .string ⟨#[]⟩, .slice none 0 0, .bool false, .bool false] := (hb2.block _ hz1).trans HH.out.2.2.2
    have s0 := x2.cell 0
    have s1 := x2.cell 1
    have s2 := x2.cell 2
    have s3 := x2.cell 3
    have s4 := x2.cell 4
    have s5 := x2.cell 5
    have t0 := x2.froz 0
    have t1 := x2.froz 1
    have t2 := x2.froz 2
    have t3 := x2.froz 3
    have t4 := x2.froz 4
    have t5 := x2.froz 5
    simp at s0 s1 s2 s3 s4 s5
    have hb3 : Below w.heap.size w w2 := HH.out.2.2.1.trans (hb2.mono (Nat.le_of_lt hz1))
    have HF := Lib.hid hb3
    clear hb2 hb3 x2
    go_wp2_with fail
    refine bodyPost_ret (v := .tuple #[.agg #[.int .i64 (T.kind : Int), .int .i64 (T.size : Int), .string ⟨#[]⟩, .slice none 0 0, .bool false, .bool T.closed], .bool true]) ?_ rfl ?_
    · simp [results, Try.results10, go_sem, s0, s1, s2, s3, s4, s5]
    · exact HH.out.2.1 _ (((((((HF.out.setc (Nat.le_refl _) 0 _).setc (Nat.le_refl _) 1 _).setc (Nat.le_refl _) 2 _).setc (Nat.le_refl _) 3 _).setc (Nat.le_refl _) 4 _).setc (Nat.le_refl _) 5 _))
  have hpre : 4 ≤ xs.length - k → ∀ W, Below w.heap.size w W → ∃ SA : ByteArray, (convert 22 9 (.slice (some ⟨b, o + k, none⟩) 4 (cap - k))).run Try.prog W = .ok (.string SA) W ∧ (SA.toList == [60, 33, 45, 45]) = false := fun h W hb => by
    refine ⟨_, hcv4 h W hb, ?_⟩
    rw [beq_eq_false_iff_ne]
    intro e
    have e2 : (⟨(u8s ((xs.drop k).take 4)).toArray⟩ : ByteArray).toList = u8s ((xs.drop k).take 4) := by first | exact ByteArray.toList_mk _ | simp
    rw [e2] at e
    have e3 := u8s_inj h256 (by decide) (show u8s ((xs.drop k).take 4) = u8s [60, 33, 45, 45] from e)
    rw [hdx] at e3
    have e4 : 60 :: c :: t.take 2 = [60, 33, 45, 45] := e3
    injection e4 with _ e5
    injection e5 with e6 e7
    exact hco ⟨e6, e7⟩
  by_cases hlt2 : ltrB c = true
  case pos =>
    have hr : rdT (xs.drop k) = some (refGo (xs.length - k) 0 rs0 ((xs.drop k).drop 1)) := by
      rw [hdx, ← hNk]
      simp [rdT, hlt2]
    have n47 : c ≠ 47 := by rintro rfl; simp [ltrB] at hlt2
    have b47 : ((c : Int) == 47) = false := by rw [beq_eq_false_iff_ne]; omega
    have hcl : ∀ W, Calls Try.prog 24 #[.int .u8 (c : Int)] W fun e w' => e = .returned (.bool true) ∧ w' = W := fun W => by have := hcw W; rw [hlt2] at this; exact this
    clear n47 hlt2 hco
    by_cases h4l : 4 ≤ xs.length - k
    · obtain ⟨SA, hcv, hl9⟩ := hpre h4l _ b1
      have i6 : (4 : Int) ≤ ((xs.length - k : Nat) : Int) := by omega
      clear hpre
      have C := RT 0 1 (by omega)
      obtain ⟨T, hT⟩ : ∃ T, refGo (xs.length - k) 0 rs0 ((xs.drop k).drop 1) = T := ⟨_, rfl⟩
      rw [hT] at C
      have hok := htg T (by rw [← hT, hr])
      obtain ⟨NB, hNB⟩ : ∃ S : ByteArray, ⟨(u8s T.name).toArray⟩ = S := ⟨_, rfl⟩
      unfold tagV strV at hok
      rw [hNB] at hok
      have HNB := Lib.hid hNB
      have HH := Lib.hid (And.intro C (And.intro hok (And.intro b1 x1)))
      clear C hok hT hr hNB
      clear b1 x1
      clear h RT RC RD hnn hup htg hcv4 h4 h256 hdx ht htl hx hc hNk hdl c2 hl1 hcw hlw
      generalize xs.length = N at *
      go_enter Try.func10, Try.ntmps10
      go_wp2_with fail
      refine (hcl _).mono ?_
      rintro r wq ⟨rfl, eq⟩
      obtain rfl := eq.symm
      go_wp2_with fail
      refine HH.out.1.mono ?_
      rintro r w2 ⟨v, rfl, ho, hb2⟩
      obtain ⟨Av, nv, cv, rfl⟩ := ho.slice
      have x2 : Cells w2 w.heap.size 31 #[.int .i64 0, .int .i64 0, .string ⟨#[]⟩, .slice none 0 0, .bool false, .bool false] := (hb2.block _ hz1).trans HH.out.2.2.2
      have s0 := x2.cell 0
      have s1 := x2.cell 1
      have s2 := x2.cell 2
      have s3 := x2.cell 3
      have s4 := x2.cell 4
      have s5 := x2.cell 5
      have t0 := x2.froz 0
      have t1 := x2.froz 1
      have t2 := x2.froz 2
      have t3 := x2.froz 3
      have t4 := x2.froz 4
      have t5 := x2.froz 5
      simp at s0 s1 s2 s3 s4 s5
      have ho2 : OwnR w2 (w.heap.size + 1) T.attrs (.slice Av nv cv) := by
        rw [World.size_alloc] at ho
        exact ho
      have hb3 : Below w.heap.size w w2 := HH.out.2.2.1.trans (hb2.mono (Nat.le_of_lt hz1))
      have HF := Lib.hid (And.intro ho2 hb3)
      clear ho ho2 hb2 hb3 x2
      unfold tagV strV
      rw [HNB.out]
      go_wp2_with fail
      refine bodyPost_ret (v := .tuple #[.agg #[.int .i64 (T.kind : Int), .int .i64 (T.size : Int), .string NB, .slice Av nv cv, .bool T.single, .bool T.closed], .bool true]) ?_ rfl ?_
      · simp [results, Try.results10, go_sem, s0, s1, s2, s3, s4, s5]
      · exact HH.out.2.1 _ _ (ownsRow_base (((((((HF.out.1.set (by omega) 0 _).set (by omega) 1 _).set (by omega) 2 _).set (by omega) 3 _).set (by omega) 4 _).set (by omega) 5 _)) (by omega)) (((((((HF.out.2.setc (Nat.le_refl _) 0 _).setc (Nat.le_refl _) 1 _).setc (Nat.le_refl _) 2 _).setc (Nat.le_refl _) 3 _).setc (Nat.le_refl _) 4 _).setc (Nat.le_refl _) 5 _))
    · have i6 : ¬ (4 : Int) ≤ ((xs.length - k : Nat) : Int) := by omega
      clear hpre
      have C := RT 0 1 (by omega)
      obtain ⟨T, hT⟩ : ∃ T, refGo (xs.length - k) 0 rs0 ((xs.drop k).drop 1) = T := ⟨_, rfl⟩
      rw [hT] at C
      have hok := htg T (by rw [← hT, hr])
      obtain ⟨NB, hNB⟩ : ∃ S : ByteArray, ⟨(u8s T.name).toArray⟩ = S := ⟨_, rfl⟩
      unfold tagV strV at hok
      rw [hNB] at hok
      have HNB := Lib.hid hNB
      have HH := Lib.hid (And.intro C (And.intro hok (And.intro b1 x1)))
      clear C hok hT hr hNB
      clear b1 x1
      clear h RT RC RD hnn hup htg hcv4 h4 h256 hdx ht htl hx hc hNk hdl c2 hl1 hcw hlw
      generalize xs.length = N at *
      go_enter Try.func10, Try.ntmps10
      go_wp2_with fail
      refine (hcl _).mono ?_
      rintro r wq ⟨rfl, eq⟩
      obtain rfl := eq.symm
      go_wp2_with fail
      refine HH.out.1.mono ?_
      rintro r w2 ⟨v, rfl, ho, hb2⟩
      obtain ⟨Av, nv, cv, rfl⟩ := ho.slice
      have x2 : Cells w2 w.heap.size 31 #[.int .i64 0, .int .i64 0, .string ⟨#[]⟩, .slice none 0 0, .bool false, .bool false] := (hb2.block _ hz1).trans HH.out.2.2.2
      have s0 := x2.cell 0
      have s1 := x2.cell 1
      have s2 := x2.cell 2
      have s3 := x2.cell 3
      have s4 := x2.cell 4
      have s5 := x2.cell 5
      have t0 := x2.froz 0
      have t1 := x2.froz 1
      have t2 := x2.froz 2
      have t3 := x2.froz 3
      have t4 := x2.froz 4
      have t5 := x2.froz 5
      simp at s0 s1 s2 s3 s4 s5
      have ho2 : OwnR w2 (w.heap.size + 1) T.attrs (.slice Av nv cv) := by
        rw [World.size_alloc] at ho
        exact ho
      have hb3 : Below w.heap.size w w2 := HH.out.2.2.1.trans (hb2.mono (Nat.le_of_lt hz1))
      have HF := Lib.hid (And.intro ho2 hb3)
      clear ho ho2 hb2 hb3 x2
      unfold tagV strV
      rw [HNB.out]
      go_wp2_with fail
      refine bodyPost_ret (v := .tuple #[.agg #[.int .i64 (T.kind : Int), .int .i64 (T.size : Int), .string NB, .slice Av nv cv, .bool T.single, .bool T.closed], .bool true]) ?_ rfl ?_
      · simp [results, Try.results10, go_sem, s0, s1, s2, s3, s4, s5]
      · exact HH.out.2.1 _ _ (ownsRow_base (((((((HF.out.1.set (by omega) 0 _).set (by omega) 1 _).set (by omega) 2 _).set (by omega) 3 _).set (by omega) 4 _).set (by omega) 5 _)) (by omega)) (((((((HF.out.2.setc (Nat.le_refl _) 0 _).setc (Nat.le_refl _) 1 _).setc (Nat.le_refl _) 2 _).setc (Nat.le_refl _) 3 _).setc (Nat.le_refl _) 4 _).setc (Nat.le_refl _) 5 _))
  have hcf : ltrB c = false := by simpa using hlt2
  have hcl : ∀ W, Calls Try.prog 24 #[.int .u8 (c : Int)] W fun e w' => e = .returned (.bool false) ∧ w' = W := fun W => by have := hcw W; rw [hcf] at this; exact this
  by_cases h47 : c = 47
  case pos =>
    subst h47
    cases t with
    | nil =>
      have hr : rdT (xs.drop k) = some (upGo (xs.length - k) 3 [62] ((xs.drop k).drop 2)) := by
        rw [hdx, ← hNk]
        rfl
      have i6 : ¬ (4 : Int) ≤ ((xs.length - k : Nat) : Int) := by simp at hNk; omega
      have i7 : ¬ (3 : Int) ≤ ((xs.length - k : Nat) : Int) := by simp at hNk; omega
      clear hlt2 hco hpre hcf
      obtain ⟨T, hT⟩ : ∃ T, upGo (xs.length - k) 3 [62] ((xs.drop k).drop 2) = T := ⟨_, rfl⟩
      have hTn : T.name = [] ∧ T.attrs = [] ∧ T.single = false := by rw [← hT]; exact upGo_plain _ _ _ _
      have C := RD
      rw [hT] at C
      have hok := hup T (by rw [← hT, hr]) hTn
      have HH := Lib.hid (And.intro C (And.intro hok (And.intro b1 x1)))
      clear C hok hT hr hTn
      clear b1 x1
      clear h RT RC RD hnn hup htg hcv4 h4 h256 hdx ht htl hx hc hNk hdl c2 hl1 hcw hlw
      generalize xs.length = N at *
      go_enter Try.func10, Try.ntmps10
      go_wp2_with fail
      refine (hcl _).mono ?_
      rintro r wq ⟨rfl, eq⟩
      obtain rfl := eq.symm
      go_wp2_with fail
      refine HH.out.1.mono ?_
      rintro r w2 ⟨rfl, hb2⟩
      have x2 : Cells w2 w.heap.size 31 #[.int .i64 0, .int .i64 0, .string ⟨#[]⟩, .slice none 0 0, .bool false, .bool false] := (hb2.block _ hz1).trans HH.out.2.2.2
      have s0 := x2.cell 0
      have s1 := x2.cell 1
      have s2 := x2.cell 2
      have s3 := x2.cell 3
      have s4 := x2.cell 4
      have s5 := x2.cell 5
      have t0 := x2.froz 0
      have t1 := x2.froz 1
      have t2 := x2.froz 2
      have t3 := x2.froz 3
      have t4 := x2.froz 4
      have t5 := x2.froz 5
      simp at s0 s1 s2 s3 s4 s5
      have hb3 : Below w.heap.size w w2 := HH.out.2.2.1.trans (hb2.mono (Nat.le_of_lt hz1))
      have HF := Lib.hid hb3
      clear hb2 hb3 x2
      go_wp2_with fail
      refine bodyPost_ret (v := .tuple #[.agg #[.int .i64 (T.kind : Int), .int .i64 (T.size : Int), .string ⟨#[]⟩, .slice none 0 0, .bool false, .bool T.closed], .bool true]) ?_ rfl ?_
      · simp [results, Try.results10, go_sem, s0, s1, s2, s3, s4, s5]
      · exact HH.out.2.1 _ (((((((HF.out.setc (Nat.le_refl _) 0 _).setc (Nat.le_refl _) 1 _).setc (Nat.le_refl _) 2 _).setc (Nat.le_refl _) 3 _).setc (Nat.le_refl _) 4 _).setc (Nat.le_refl _) 5 _))
    | cons e u =>
      have c2 := c2 e rfl
      have i7 : (3 : Int) ≤ ((xs.length - k : Nat) : Int) := by simp at hNk; omega
      have i8 : (2 : Int) < ((xs.length - k : Nat) : Int) := by simp at hNk; omega
      by_cases he : ltrB e = true
      case pos =>
        have hr : rdT (xs.drop k) = some (refGo (xs.length - k) 1 rs0 ((xs.drop k).drop 2)) := by
          rw [hdx, ← hNk]
          simp [rdT, hcf, he]
        have hel : ∀ W, Calls Try.prog 24 #[.int .u8 (e : Int)] W fun r w' => r = .returned (.bool true) ∧ w' = W := fun W => by have := hlw e W; rw [he] at this; exact this
        clear he hlt2 hco hcf
        by_cases h4l : 4 ≤ xs.length - k
        · obtain ⟨SA, hcv, hl9⟩ := hpre h4l _ b1
          have i6 : (4 : Int) ≤ ((xs.length - k : Nat) : Int) := by omega
          clear hpre
          have C := RT 1 2 (by omega)
          obtain ⟨T, hT⟩ : ∃ T, refGo (xs.length - k) 1 rs0 ((xs.drop k).drop 2) = T := ⟨_, rfl⟩
          rw [hT] at C
          have hok := htg T (by rw [← hT, hr])
          obtain ⟨NB, hNB⟩ : ∃ S : ByteArray, ⟨(u8s T.name).toArray⟩ = S := ⟨_, rfl⟩
          unfold tagV strV at hok
          rw [hNB] at hok
          have HNB := Lib.hid hNB
          have HH := Lib.hid (And.intro C (And.intro hok (And.intro b1 x1)))
          clear C hok hT hr hNB
          clear b1 x1
          clear h RT RC RD hnn hup htg hcv4 h4 h256 hdx ht htl hx hc hNk hdl hl1 hcw hlw
          generalize xs.length = N at *
          go_enter Try.func10, Try.ntmps10
          go_wp2_with fail
          refine (hel _).mono ?_
          rintro r wq ⟨rfl, eq⟩
          obtain rfl := eq.symm
          go_wp2_with fail
          refine HH.out.1.mono ?_
          rintro r w2 ⟨v, rfl, ho, hb2⟩
          obtain ⟨Av, nv, cv, rfl⟩ := ho.slice
          have x2 : Cells w2 w.heap.size 31 #[.int .i64 0, .int .i64 0, .string ⟨#[]⟩, .slice none 0 0, .bool false, .bool false] := (hb2.block _ hz1).trans HH.out.2.2.2
          have s0 := x2.cell 0
          have s1 := x2.cell 1
          have s2 := x2.cell 2
          have s3 := x2.cell 3
          have s4 := x2.cell 4
          have s5 := x2.cell 5
          have t0 := x2.froz 0
          have t1 := x2.froz 1
          have t2 := x2.froz 2
          have t3 := x2.froz 3
          have t4 := x2.froz 4
          have t5 := x2.froz 5
          simp at s0 s1 s2 s3 s4 s5
          have ho2 : OwnR w2 (w.heap.size + 1) T.attrs (.slice Av nv cv) := by
            rw [World.size_alloc] at ho
            exact ho
          have hb3 : Below w.heap.size w w2 := HH.out.2.2.1.trans (hb2.mono (Nat.le_of_lt hz1))
          have HF := Lib.hid (And.intro ho2 hb3)
          clear ho ho2 hb2 hb3 x2
          unfold tagV strV
          rw [HNB.out]
          go_wp2_with fail
          refine bodyPost_ret (v := .tuple #[.agg #[.int .i64 (T.kind : Int), .int .i64 (T.size : Int), .string NB, .slice Av nv cv, .bool T.single, .bool T.closed], .bool true]) ?_ rfl ?_
          · simp [results, Try.results10, go_sem, s0, s1, s2, s3, s4, s5]
          · exact HH.out.2.1 _ _ (ownsRow_base (((((((HF.out.1.set (by omega) 0 _).set (by omega) 1 _).set (by omega) 2 _).set (by omega) 3 _).set (by omega) 4 _).set (by omega) 5 _)) (by omega)) (((((((HF.out.2.setc (Nat.le_refl _) 0 _).setc (Nat.le_refl _) 1 _).setc (Nat.le_refl _) 2 _).setc (Nat.le_refl _) 3 _).setc (Nat.le_refl _) 4 _).setc (Nat.le_refl _) 5 _))
        · have i6 : ¬ (4 : Int) ≤ ((xs.length - k : Nat) : Int) := by omega
          clear hpre
          have C := RT 1 2 (by omega)
          obtain ⟨T, hT⟩ : ∃ T, refGo (xs.length - k) 1 rs0 ((xs.drop k).drop 2) = T := ⟨_, rfl⟩
          rw [hT] at C
          have hok := htg T (by rw [← hT, hr])
          obtain ⟨NB, hNB⟩ : ∃ S : ByteArray, ⟨(u8s T.name).toArray⟩ = S := ⟨_, rfl⟩
          unfold tagV strV at hok
          rw [hNB] at hok
          have HNB := Lib.hid hNB
          have HH := Lib.hid (And.intro C (And.intro hok (And.intro b1 x1)))
          clear C hok hT hr hNB
          clear b1 x1
          clear h RT RC RD hnn hup htg hcv4 h4 h256 hdx ht htl hx hc hNk hdl hl1 hcw hlw
          generalize xs.length = N at *
          go_enter Try.func10, Try.ntmps10
          go_wp2_with fail
          refine (hel _).mono ?_
          rintro r wq ⟨rfl, eq⟩
          obtain rfl := eq.symm
          go_wp2_with fail
          refine HH.out.1.mono ?_
          rintro r w2 ⟨v, rfl, ho, hb2⟩
          obtain ⟨Av, nv, cv, rfl⟩ := ho.slice
          have x2 : Cells w2 w.heap.size 31 #[.int .i64 0, .int .i64 0, .string ⟨#[]⟩, .slice none 0 0, .bool false, .bool false] := (hb2.block _ hz1).trans HH.out.2.2.2
          have s0 := x2.cell 0
          have s1 := x2.cell 1
          have s2 := x2.cell 2
          have s3 := x2.cell 3
          have s4 := x2.cell 4
          have s5 := x2.cell 5
          have t0 := x2.froz 0
          have t1 := x2.froz 1
          have t2 := x2.froz 2
          have t3 := x2.froz 3
          have t4 := x2.froz 4
          have t5 := x2.froz 5
          simp at s0 s1 s2 s3 s4 s5
          have ho2 : OwnR w2 (w.heap.size + 1) T.attrs (.slice Av nv cv) := by
            rw [World.size_alloc] at ho
            exact ho
          have hb3 : Below w.heap.size w w2 := HH.out.2.2.1.trans (hb2.mono (Nat.le_of_lt hz1))
          have HF := Lib.hid (And.intro ho2 hb3)
          clear ho ho2 hb2 hb3 x2
          unfold tagV strV
          rw [HNB.out]
          go_wp2_with fail
          refine bodyPost_ret (v := .tuple #[.agg #[.int .i64 (T.kind : Int), .int .i64 (T.size : Int), .string NB, .slice Av nv cv, .bool T.single, .bool T.closed], .bool true]) ?_ rfl ?_
          · simp [results, Try.results10, go_sem, s0, s1, s2, s3, s4, s5]
          · exact HH.out.2.1 _ _ (ownsRow_base (((((((HF.out.1.set (by omega) 0 _).set (by omega) 1 _).set (by omega) 2 _).set (by omega) 3 _).set (by omega) 4 _).set (by omega) 5 _)) (by omega)) (((((((HF.out.2.setc (Nat.le_refl _) 0 _).setc (Nat.le_refl _) 1 _).setc (Nat.le_refl _) 2 _).setc (Nat.le_refl _) 3 _).setc (Nat.le_refl _) 4 _).setc (Nat.le_refl _) 5 _))
      case neg =>
        have hef : ltrB e = false := by simpa using he
        have hr : rdT (xs.drop k) = some (upGo (xs.length - k) 3 [62] ((xs.drop k).drop 2)) := by
          rw [hdx, ← hNk]
          simp [rdT, hcf, hef]
        have hel : ∀ W, Calls Try.prog 24 #[.int .u8 (e : Int)] W fun r w' => r = .returned (.bool false) ∧ w' = W := fun W => by have := hlw e W; rw [hef] at this; exact this
        clear he hlt2 hco hcf hef
        by_cases h4l : 4 ≤ xs.length - k
        · obtain ⟨SA, hcv, hl9⟩ := hpre h4l _ b1
          have i6 : (4 : Int) ≤ ((xs.length - k : Nat) : Int) := by omega
          clear hpre
          obtain ⟨T, hT⟩ : ∃ T, upGo (xs.length - k) 3 [62] ((xs.drop k).drop 2) = T := ⟨_, rfl⟩
          have hTn : T.name = [] ∧ T.attrs = [] ∧ T.single = false := by rw [← hT]; exact upGo_plain _ _ _ _
          have C := RD
          rw [hT] at C
          have hok := hup T (by rw [← hT, hr]) hTn
          have HH := Lib.hid (And.intro C (And.intro hok (And.intro b1 x1)))
          clear C hok hT hr hTn
          clear b1 x1
          clear h RT RC RD hnn hup htg hcv4 h4 h256 hdx ht htl hx hc hNk hdl hl1 hcw hlw
          generalize xs.length = N at *
          go_enter Try.func10, Try.ntmps10
          go_wp2_with fail
          refine (hel _).mono ?_
          rintro r wq ⟨rfl, eq⟩
          obtain rfl := eq.symm
          go_wp2_with fail
          refine (hcl _).mono ?_
          rintro r wq ⟨rfl, eq⟩
          obtain rfl := eq.symm
          go_wp2_with fail
          refine HH.out.1.mono ?_
          rintro r w2 ⟨rfl, hb2⟩
          have x2 : Cells w2 w.heap.size 31 #[.int .i64 0, .int .i64 0, .string ⟨#[]⟩, .slice none 0 0, .bool false, .bool false] := (hb2.block _ hz1).trans HH.out.2.2.2
          have s0 := x2.cell 0
          have s1 := x2.cell 1
          have s2 := x2.cell 2
          have s3 := x2.cell 3
          have s4 := x2.cell 4
          have s5 := x2.cell 5
          have t0 := x2.froz 0
          have t1 := x2.froz 1
          have t2 := x2.froz 2
          have t3 := x2.froz 3
          have t4 := x2.froz 4
          have t5 := x2.froz 5
          simp at s0 s1 s2 s3 s4 s5
          have hb3 : Below w.heap.size w w2 := HH.out.2.2.1.trans (hb2.mono (Nat.le_of_lt hz1))
          have HF := Lib.hid hb3
          clear hb2 hb3 x2
          go_wp2_with fail
          refine bodyPost_ret (v := .tuple #[.agg #[.int .i64 (T.kind : Int), .int .i64 (T.size : Int), .string ⟨#[]⟩, .slice none 0 0, .bool false, .bool T.closed], .bool true]) ?_ rfl ?_
          · simp [results, Try.results10, go_sem, s0, s1, s2, s3, s4, s5]
          · exact HH.out.2.1 _ (((((((HF.out.setc (Nat.le_refl _) 0 _).setc (Nat.le_refl _) 1 _).setc (Nat.le_refl _) 2 _).setc (Nat.le_refl _) 3 _).setc (Nat.le_refl _) 4 _).setc (Nat.le_refl _) 5 _))
        · have i6 : ¬ (4 : Int) ≤ ((xs.length - k : Nat) : Int) := by omega
          clear hpre
          obtain ⟨T, hT⟩ : ∃ T, upGo (xs.length - k) 3 [62] ((xs.drop k).drop 2) = T := ⟨_, rfl⟩
          have hTn : T.name = [] ∧ T.attrs = [] ∧ T.single = false := by rw [← hT]; exact upGo_plain _ _ _ _
          have C := RD
          rw [hT] at C
          have hok := hup T (by rw [← hT, hr]) hTn
          have HH := Lib.hid (And.intro C (And.intro hok (And.intro b1 x1)))
          clear C hok hT hr hTn
          clear b1 x1
          clear h RT RC RD hnn hup htg hcv4 h4 h256 hdx ht htl hx hc hNk hdl hl1 hcw hlw
          generalize xs.length = N at *
          go_enter Try.func10, Try.ntmps10
          go_wp2_with fail
          refine (hel _).mono ?_
          rintro r wq ⟨rfl, eq⟩
          obtain rfl := eq.symm
          go_wp2_with fail
          refine (hcl _).mono ?_
          rintro r wq ⟨rfl, eq⟩
          obtain rfl := eq.symm
          go_wp2_with fail
          refine HH.out.1.mono ?_
          rintro r w2 ⟨rfl, hb2⟩
          have x2 : Cells w2 w.heap.size 31 #[.int .i64 0, .int .i64 0, .string ⟨#[]⟩, .slice none 0 0, .bool false, .bool false] := (hb2.block _ hz1).trans HH.out.2.2.2
          have s0 := x2.cell 0
          have s1 := x2.cell 1
          have s2 := x2.cell 2
          have s3 := x2.cell 3
          have s4 := x2.cell 4
          have s5 := x2.cell 5
          have t0 := x2.froz 0
          have t1 := x2.froz 1
          have t2 := x2.froz 2
          have t3 := x2.froz 3
          have t4 := x2.froz 4
          have t5 := x2.froz 5
          simp at s0 s1 s2 s3 s4 s5
          have hb3 : Below w.heap.size w w2 := HH.out.2.2.1.trans (hb2.mono (Nat.le_of_lt hz1))
          have HF := Lib.hid hb3
          clear hb2 hb3 x2
          go_wp2_with fail
          refine bodyPost_ret (v := .tuple #[.agg #[.int .i64 (T.kind : Int), .int .i64 (T.size : Int), .string ⟨#[]⟩, .slice none 0 0, .bool false, .bool T.closed], .bool true]) ?_ rfl ?_
          · simp [results, Try.results10, go_sem, s0, s1, s2, s3, s4, s5]
          · exact HH.out.2.1 _ (((((((HF.out.setc (Nat.le_refl _) 0 _).setc (Nat.le_refl _) 1 _).setc (Nat.le_refl _) 2 _).setc (Nat.le_refl _) 3 _).setc (Nat.le_refl _) 4 _).setc (Nat.le_refl _) 5 _))
  have b47 : ((c : Int) == 47) = false := by rw [beq_eq_false_iff_ne]; omega
  by_cases h33 : c = 33 ∨ c = 63
  case pos =>
    have hr : rdT (xs.drop k) = some (upGo (xs.length - k) 3 [62] ((xs.drop k).drop 2)) := by
      rw [hdx, ← hNk]
      have h1 : ¬ (c = 47 ∧ (t.head?.map ltrB) = some true) := fun h => h47 h.1
      have h2 : c = 33 ∨ c = 63 ∨ c = 47 := by omega
      simp only [rdT, hcf, if_neg h1, if_neg hco, if_pos h2, ne_eq, not_true_eq_false, if_false, Bool.false_eq_true]
      rfl
    clear hco hcf hlt2
    rcases h33 with rfl | rfl
    · clear h47 b47
      by_cases h4l : 4 ≤ xs.length - k
      · obtain ⟨SA, hcv, hl9⟩ := hpre h4l _ b1
        have i6 : (4 : Int) ≤ ((xs.length - k : Nat) : Int) := by omega
        clear hpre
        obtain ⟨T, hT⟩ : ∃ T, upGo (xs.length - k) 3 [62] ((xs.drop k).drop 2) = T := ⟨_, rfl⟩
        have hTn : T.name = [] ∧ T.attrs = [] ∧ T.single = false := by rw [← hT]; exact upGo_plain _ _ _ _
        have C := RD
        rw [hT] at C
        have hok := hup T (by rw [← hT, hr]) hTn
        have HH := Lib.hid (And.intro C (And.intro hok (And.intro b1 x1)))
        clear C hok hT hr hTn
        clear b1 x1
        clear h RT RC RD hnn hup htg hcv4 h4 h256 hdx ht htl hx hc hNk hdl c2 hl1 hcw hlw
        generalize xs.length = N at *
        go_enter Try.func10, Try.ntmps10
        go_wp2_with fail
        refine (hcl _).mono ?_
        rintro r wq ⟨rfl, eq⟩
        obtain rfl := eq.symm
        go_wp2_with fail
        refine HH.out.1.mono ?_
        rintro r w2 ⟨rfl, hb2⟩
        have x2 : Cells w2 w.heap.size 31 #[.int .i64 0, .int .i64 0, .string ⟨#[]⟩, .slice none 0 0, .bool false, .bool false] := (hb2.block _ hz1).trans HH.out.2.2.2
        have s0 := x2.cell 0
        have s1 := x2.cell 1
        have s2 := x2.cell 2
        have s3 := x2.cell 3
        have s4 := x2.cell 4
        have s5 := x2.cell 5
        have t0 := x2.froz 0
        have t1 := x2.froz 1
        have t2 := x2.froz 2
        have t3 := x2.froz 3
        have t4 := x2.froz 4
        have t5 := x2.froz 5
        simp at s0 s1 s2 s3 s4 s5
        have hb3 : Below w.heap.size w w2 := HH.out.2.2.1.trans (hb2.mono (Nat.le_of_lt hz1))
        have HF := Lib.hid hb3
        clear hb2 hb3 x2
        go_wp2_with fail
        refine bodyPost_ret (v := .tuple #[.agg #[.int .i64 (T.kind : Int), .int .i64 (T.size : Int), .string ⟨#[]⟩, .slice none 0 0, .bool false, .bool T.closed], .bool true]) ?_ rfl ?_
        · simp [results, Try.results10, go_sem, s0, s1, s2, s3, s4, s5]
        · exact HH.out.2.1 _ (((((((HF.out.setc (Nat.le_refl _) 0 _).setc (Nat.le_refl _) 1 _).setc (Nat.le_refl _) 2 _).setc (Nat.le_refl _) 3 _).setc (Nat.le_refl _) 4 _).setc (Nat.le_refl _) 5 _))
      · have i6 : ¬ (4 : Int) ≤ ((xs.length - k : Nat) : Int) := by omega
        clear hpre
        obtain ⟨T, hT⟩ : ∃ T, upGo (xs.length - k) 3 [62] ((xs.drop k).drop 2) = T := ⟨_, rfl⟩
        have hTn : T.name = [] ∧ T.attrs = [] ∧ T.single = false := by rw [← hT]; exact upGo_plain _ _ _ _
        have C := RD
        rw [hT] at C
        have hok := hup T (by rw [← hT, hr]) hTn
        have HH := Lib.hid (And.intro C (And.intro hok (And.intro b1 x1)))
        clear C hok hT hr hTn
        clear b1 x1
        clear h RT RC RD hnn hup htg hcv4 h4 h256 hdx ht htl hx hc hNk hdl c2 hl1 hcw hlw
        generalize xs.length = N at *
        go_enter Try.func10, Try.ntmps10
        go_wp2_with fail
        refine (hcl _).mono ?_
        rintro r wq ⟨rfl, eq⟩
        obtain rfl := eq.symm
        go_wp2_with fail
        refine HH.out.1.mono ?_
        rintro r w2 ⟨rfl, hb2⟩
        have x2 : Cells w2 w.heap.size 31 #[.int .i64 0, .int .i64 0, .string ⟨#[]⟩, .slice none 0 0, .bool false, .bool false] := (hb2.block _ hz1).trans HH.out.2.2.2
        have s0 := x2.cell 0
        have s1 := x2.cell 1
        have s2 := x2.cell 2
        have s3 := x2.cell 3
        have s4 := x2.cell 4
        have s5 := x2.cell 5
        have t0 := x2.froz 0
        have t1 := x2.froz 1
        have t2 := x2.froz 2
        have t3 := x2.froz 3
        have t4 := x2.froz 4
        have t5 := x2.froz 5
        simp at s0 s1 s2 s3 s4 s5
        have hb3 : Below w.heap.size w w2 := HH.out.2.2.1.trans (hb2.mono (Nat.le_of_lt hz1))
        have HF := Lib.hid hb3
        clear hb2 hb3 x2
        go_wp2_with fail
        refine bodyPost_ret (v := .tuple #[.agg #[.int .i64 (T.kind : Int), .int .i64 (T.size : Int), .string ⟨#[]⟩, .slice none 0 0, .bool false, .bool T.closed], .bool true]) ?_ rfl ?_
        · simp [results, Try.results10, go_sem, s0, s1, s2, s3, s4, s5]
        · exact HH.out.2.1 _ (((((((HF.out.setc (Nat.le_refl _) 0 _).setc (Nat.le_refl _) 1 _).setc (Nat.le_refl _) 2 _).setc (Nat.le_refl _) 3 _).setc (Nat.le_refl _) 4 _).setc (Nat.le_refl _) 5 _))
    · clear h47 b47
      by_cases h4l : 4 ≤ xs.length - k
      · obtain ⟨SA, hcv, hl9⟩ := hpre h4l _ b1
        have i6 : (4 : Int) ≤ ((xs.length - k : Nat) : Int) := by omega
        clear hpre
        obtain ⟨T, hT⟩ : ∃ T, upGo (xs.length - k) 3 [62] ((xs.drop k).drop 2) = T := ⟨_, rfl⟩
        have hTn : T.name = [] ∧ T.attrs = [] ∧ T.single = false := by rw [← hT]; exact upGo_plain _ _ _ _
        have C := RD
        rw [hT] at C
        have hok := hup T (by rw [← hT, hr]) hTn
        have HH := Lib.hid (And.intro C (And.intro hok (And.intro b1 x1)))
        clear C hok hT hr hTn
        clear b1 x1
        clear h RT RC RD hnn hup htg hcv4 h4 h256 hdx ht htl hx hc hNk hdl c2 hl1 hcw hlw
        generalize xs.length = N at *
        go_enter Try.func10, Try.ntmps10
        go_wp2_with fail
        refine (hcl _).mono ?_
        rintro r wq ⟨rfl, eq⟩
        obtain rfl := eq.symm
        go_wp2_with fail
        refine HH.out.1.mono ?_
        rintro r w2 ⟨rfl, hb2⟩
        have x2 : Cells w2 w.heap.size 31 #[.int .i64 0, .int .i64 0, .string ⟨#[]⟩, .slice none 0 0, .bool false, .bool false] := (hb2.block _ hz1).trans HH.out.2.2.2
        have s0 := x2.cell 0
        have s1 := x2.cell 1
        have s2 := x2.cell 2
        have s3 := x2.cell 3
        have s4 := x2.cell 4
        have s5 := x2.cell 5
        have t0 := x2.froz 0
        have t1 := x2.froz 1
        have t2 := x2.froz 2
        have t3 := x2.froz 3
        have t4 := x2.froz 4
        have t5 := x2.froz 5
        simp at s0 s1 s2 s3 s4 s5
        have hb3 : Below w.heap.size w w2 := HH.out.2.2.1.trans (hb2.mono (Nat.le_of_lt hz1))
        have HF := Lib.hid hb3
        clear hb2 hb3 x2
        go_wp2_with fail
        refine bodyPost_ret (v := .tuple #[.agg #[.int .i64 (T.kind : Int), .int .i64 (T.size : Int), .string ⟨#[]⟩, .slice none 0 0, .bool false, .bool T.closed], .bool true]) ?_ rfl ?_
        · simp [results, Try.results10, go_sem, s0, s1, s2, s3, s4, s5]
        · exact HH.out.2.1 _ (((((((HF.out.setc (Nat.le_refl _) 0 _).setc (Nat.le_refl _) 1 _).setc (Nat.le_refl _) 2 _).setc (Nat.le_refl _) 3 _).setc (Nat.le_refl _) 4 _).setc (Nat.le_refl _) 5 _))
      · have i6 : ¬ (4 : Int) ≤ ((xs.length - k : Nat) : Int) := by omega
        clear hpre
        obtain ⟨T, hT⟩ : ∃ T, upGo (xs.length - k) 3 [62] ((xs.drop k).drop 2) = T := ⟨_, rfl⟩
        have hTn : T.name = [] ∧ T.attrs = [] ∧ T.single = false := by rw [← hT]; exact upGo_plain _ _ _ _
        have C := RD
        rw [hT] at C
        have hok := hup T (by rw [← hT, hr]) hTn
        have HH := Lib.hid (And.intro C (And.intro hok (And.intro b1 x1)))
        clear C hok hT hr hTn
        clear b1 x1
        clear h RT RC RD hnn hup htg hcv4 h4 h256 hdx ht htl hx hc hNk hdl c2 hl1 hcw hlw
        generalize xs.length = N at *
        go_enter Try.func10, Try.ntmps10
        go_wp2_with fail
        refine (hcl _).mono ?_
        rintro r wq ⟨rfl, eq⟩
        obtain rfl := eq.symm
        go_wp2_with fail
        refine HH.out.1.mono ?_
        rintro r w2 ⟨rfl, hb2⟩
        have x2 : Cells w2 w.heap.size 31 #[.int .i64 0, .int .i64 0, .string ⟨#[]⟩, .slice none 0 0, .bool false, .bool false] := (hb2.block _ hz1).trans HH.out.2.2.2
        have s0 := x2.cell 0
        have s1 := x2.cell 1
        have s2 := x2.cell 2
        have s3 := x2.cell 3
        have s4 := x2.cell 4
        have s5 := x2.cell 5
        have t0 := x2.froz 0
        have t1 := x2.froz 1
        have t2 := x2.froz 2
        have t3 := x2.froz 3
        have t4 := x2.froz 4
        have t5 := x2.froz 5
        simp at s0 s1 s2 s3 s4 s5
        have hb3 : Below w.heap.size w w2 := HH.out.2.2.1.trans (hb2.mono (Nat.le_of_lt hz1))
        have HF := Lib.hid hb3
        clear hb2 hb3 x2
        go_wp2_with fail
        refine bodyPost_ret (v := .tuple #[.agg #[.int .i64 (T.kind : Int), .int .i64 (T.size : Int), .string ⟨#[]⟩, .slice none 0 0, .bool false, .bool T.closed], .bool true]) ?_ rfl ?_
        · simp [results, Try.results10, go_sem, s0, s1, s2, s3, s4, s5]
        · exact HH.out.2.1 _ (((((((HF.out.setc (Nat.le_refl _) 0 _).setc (Nat.le_refl _) 1 _).setc (Nat.le_refl _) 2 _).setc (Nat.le_refl _) 3 _).setc (Nat.le_refl _) 4 _).setc (Nat.le_refl _) 5 _))
  case neg =>
    have hr : rdT (xs.drop k) = none := by
      rw [hdx]
      have h1 : ¬ (c = 47 ∧ (t.head?.map ltrB) = some true) := fun h => h47 h.1
      have h2 : ¬ (c = 33 ∨ c = 63 ∨ c = 47) := by omega
      simp only [rdT, hcf, if_neg h1, if_neg hco, if_neg h2, ne_eq, not_true_eq_false, if_false, Bool.false_eq_true]
    have b33 : ((c : Int) == 33) = false := by rw [beq_eq_false_iff_ne]; omega
    have b63 : ((c : Int) == 63) = false := by rw [beq_eq_false_iff_ne]; omega
    clear hco hcf hlt2 h47 h33
    by_cases h4l : 4 ≤ xs.length - k
    · obtain ⟨SA, hcv, hl9⟩ := hpre h4l _ b1
      have i6 : (4 : Int) ≤ ((xs.length - k : Nat) : Int) := by omega
      clear hpre
      have hok := fun w' => hnn w' hr
      have HH := Lib.hid (And.intro hok b1)
      clear hok hr
      clear b1 x1
      clear h RT RC RD hnn hup htg hcv4 h4 h256 hdx ht htl hx hc hNk hdl c2 hl1 hcw hlw
      generalize xs.length = N at *
      go_enter Try.func10, Try.ntmps10
      go_wp2_with fail
      refine (hcl _).mono ?_
      rintro r wq ⟨rfl, eq⟩
      obtain rfl := eq.symm
      go_wp2_with fail
      refine bodyPost_ret (v := .tuple #[.agg #[.int .i64 0, .int .i64 0, .string ⟨#[]⟩, .slice none 0 0, .bool false, .bool false], .bool false]) ?_ rfl ?_
      · simp [results, Try.results10, go_sem]
      · exact HH.out.1 _ HH.out.2
    · have i6 : ¬ (4 : Int) ≤ ((xs.length - k : Nat) : Int) := by omega
      clear hpre
      have hok := fun w' => hnn w' hr
      have HH := Lib.hid (And.intro hok b1)
      clear hok hr
      clear b1 x1
      clear h RT RC RD hnn hup htg hcv4 h4 h256 hdx ht htl hx hc hNk hdl c2 hl1 hcw hlw
      generalize xs.length = N at *
      go_enter Try.func10, Try.ntmps10
      go_wp2_with fail
      refine (hcl _).mono ?_
      rintro r wq ⟨rfl, eq⟩
      obtain rfl := eq.symm
      go_wp2_with fail
      refine bodyPost_ret (v := .tuple #[.agg #[.int .i64 0, .int .i64 0, .string ⟨#[]⟩, .slice none 0 0, .bool false, .bool false], .bool false]) ?_ rfl ?_
      · simp [results, Try.results10, go_sem]
      · exact HH.out.1 _ HH.out.2
end Go.Proofs.Ytplnkmojkdbbnaa
