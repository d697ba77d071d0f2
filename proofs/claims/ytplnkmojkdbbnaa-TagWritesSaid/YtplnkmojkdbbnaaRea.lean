/-
  Contract: tag.Read.
-/
import Derived.Test.YtplnkmojkdbbnaaRto
namespace Go.Proofs.Ytplnkmojkdbbnaa
open Go.RowKit Go.Shelf Go.Lib Go.Maps Go.Sort

theorem tagT_at {N kind : Nat} {l : List Nat} {n : Nat} : tgo N kind (nameL eName l n n) [] (l.drop (n + rnN eName l n)) = refGo N kind rs0 (l.drop n) := by
  unfold rs0 tgo
  rw [ref_name, rnN_drop]
  congr 2
  unfold nameL
  rw [List.nil_append, List.drop_take]
  congr 1
  rw [Nat.add_sub_cancel_left]
  exact (runW_eq_take _ _).symm
theorem beg1 (p : Nat → Bool) (d c : Nat) (t : List Nat) : begB [60] p (d :: c :: t) = (d == 60 && p c) := by
  simp [begB]
theorem beg2 (p : Nat → Bool) (d c : Nat) (t : List Nat) : begB [60, 47] p (d :: c :: t) = ((d == 60 && c == 47) && (t.head?.map p).getD false) := by
  cases t <;> simp [begB]
theorem beg_short (pre : List Nat) (p : Nat → Bool) {l : List Nat} (h : l.length ≤ pre.length) : begB pre p l = false := by
  unfold begB
  rw [List.getElem?_eq_none h]
  simp
inductive RdCase (l : List Nat) : Prop
  | st (h : begB [60] ltrB l = true) (r : rdT l = some (refGo l.length 0 rs0 (l.drop 1))) (n : 1 < l.length)
  | en (h1 : begB [60] ltrB l = false) (h : begB [60, 47] ltrB l = true) (r : rdT l = some (refGo l.length 1 rs0 (l.drop 2))) (n : 2 < l.length)
  | co (h1 : begB [60] ltrB l = false) (h2 : begB [60, 47] ltrB l = false) (h : ([60, 33, 45, 45] : List Nat).isPrefixOf l = true) (r : rdT l = some (upGo l.length 2 [45, 45, 62] (l.drop 4))) (n : 4 ≤ l.length)
  | de (h1 : begB [60] ltrB l = false) (h2 : begB [60, 47] ltrB l = false) (h3 : ([60, 33, 45, 45] : List Nat).isPrefixOf l = false) (h : begB [60] declB l = true) (r : rdT l = some (upGo l.length 3 [62] (l.drop 1))) (n : 1 ≤ l.length)
  | no (h1 : begB [60] ltrB l = false) (h2 : begB [60, 47] ltrB l = false) (h3 : ([60, 33, 45, 45] : List Nat).isPrefixOf l = false) (h : begB [60] declB l = false) (r : rdT l = none)
theorem rd_case : ∀ (l : List Nat), RdCase l
  | [] => .no rfl rfl rfl rfl rfl
  | [d] => .no (beg_short _ _ (by simp)) (beg_short _ _ (by simp)) (by simp [List.isPrefixOf]) (beg_short _ _ (by simp)) rfl
  | d :: c :: t => by
    by_cases hd : d = 60
    case neg =>
      have hb : (d == 60) = false := by simp [hd]
      exact .no (by rw [beg1, hb]; rfl) (by rw [beg2, hb]; rfl) (by simp [List.isPrefixOf]; intro h; exact absurd h.symm hd) (by rw [beg1, hb]; rfl) (by simp [rdT, hd])
    subst hd
    by_cases hc : ltrB c = true
    · exact .st (by rw [beg1, hc]; rfl) (by simp [rdT, hc]) (by simp)
    have hcf : ltrB c = false := by simpa using hc
    have h1 : begB [60] ltrB (60 :: c :: t) = false := by rw [beg1, hcf]; rfl
    by_cases h47 : c = 47 ∧ t.head?.map ltrB = some true
    · obtain ⟨rfl, ht⟩ := h47
      refine .en h1 (by rw [beg2, ht]; rfl) (by simp [rdT, hcf, ht]) ?_
      cases t with
      | nil => simp at ht
      | cons a t => simp
    have h2 : begB [60, 47] ltrB (60 :: c :: t) = false := by
      rw [beg2]
      by_cases e : c = 47
      · have : (t.head?.map ltrB).getD false = false := by
          cases e2 : t.head?.map ltrB with
          | none => rfl
          | some v => cases v with
            | true => exact absurd ⟨e, e2⟩ h47
            | false => rfl
        rw [this]
        simp
      · simp [e]
    by_cases h33 : c = 33 ∧ t.take 2 = [45, 45]
    · obtain ⟨rfl, ht⟩ := h33
      obtain ⟨u, rfl⟩ : ∃ u, t = 45 :: 45 :: u := ⟨t.drop 2, by rw [← List.take_append_drop 2 t, ht]; simp⟩
      exact .co h1 h2 (by simp [List.isPrefixOf]) (by simp [rdT, hcf]) (by simp)
    have h3 : ([60, 33, 45, 45] : List Nat).isPrefixOf (60 :: c :: t) = false := by
      rw [Bool.eq_false_iff]
      intro e
      apply h33
      obtain ⟨u, hu⟩ := List.isPrefixOf_iff_prefix.1 e
      simp at hu
      obtain ⟨rfl, rfl⟩ := hu
      exact ⟨rfl, rfl⟩
    by_cases hde : c = 33 ∨ c = 63 ∨ c = 47
    · refine .de h1 h2 h3 (by rw [beg1]; rcases hde with rfl | rfl | rfl <;> rfl) ?_ (by simp)
      have hn : ([62] : List Nat).isPrefixOf (c :: t) = false := by rcases hde with rfl | rfl | rfl <;> rfl
      have hu : upGo (60 :: c :: t).length 3 [62] ((60 :: c :: t).drop 1) = upGo (t.length + 2) 3 [62] t := by
        show upGo _ 3 [62] (c :: t) = _
        rw [upGo, hn]
        simp
      rw [hu]
      simp only [rdT, hcf, if_neg h47, if_neg h33, if_pos hde, ne_eq, not_true_eq_false, if_false, Bool.false_eq_true]
    · refine .no h1 h2 h3 ?_ ?_
      · rw [beg1]
        simp [declB]
        omega
      · simp only [rdT, hcf, if_neg h47, if_neg h33, if_neg hde, ne_eq, not_true_eq_false, if_false, Bool.false_eq_true]
theorem upGo_plain (N kind : Nat) (e : List Nat) : ∀ l, (upGo N kind e l).name = [] ∧ (upGo N kind e l).attrs = [] ∧ (upGo N kind e l).single = false
  | [] => ⟨rfl, rfl, rfl⟩
  | c :: t => by
    rw [upGo]
    split
    · exact ⟨rfl, rfl, rfl⟩
    · exact upGo_plain N kind e t
/-- What stands at a place. -/
def rdAt (xs : List Nat) (I : Int) : Option TG := if I < 0 then none else rdT (xs.drop I.toNat)
def ReadOk (w : World) (O : Option TG) (e : Ending) (w' : World) : Prop := ∃ v, e = .returned (.tuple #[tagV (O.getD tg0) v, .bool O.isSome]) ∧ OwnA w' w.heap.size (O.getD tg0).attrs v ∧ Below w.heap.size w w'
theorem hasPre_any (w : World) (xs ys : List Nat) (A A2 : Option Addr) (cap c2 B B2 : Nat) (hx : BY w B xs A cap) (hy : BY w B2 ys A2 c2) :
    Calls Try.prog 20 #[.slice A xs.length cap, .slice A2 ys.length c2] w fun e w' => e = .returned (.bool (ys.isPrefixOf xs)) ∧ w' = w := by
  have C := Try.bytes_HasPrefix_all A A2 xs.length cap ys.length c2 _ _ w (by simp) (by simp) hx.l hx.bin hy.bin
  rw [bytesOf_cast, bytesOf_cast, Lib.hasPrefix, isPrefixOf_map _ _ hy.i hx.i] at C
  exact C
theorem tagV_zero : tagV tg0 (.slice none 0 0) = .agg #[.int .i64 0, .int .i64 0, .string ⟨#[]⟩, .slice none 0 0, .bool false, .bool false] := rfl
theorem readOk_none (w w' : World) (h : Below w.heap.size w w') : ReadOk w none (.returned (.tuple #[.agg #[.int .i64 0, .int .i64 0, .string ⟨#[]⟩, .slice none 0 0, .bool false, .bool false], .bool false])) w' := ⟨_, rfl, ownA_nil _ _, h⟩
set_option maxHeartbeats 40000000 in
set_option maxRecDepth 100000 in
theorem read_any (xs : List Nat) (A : Option Addr) (cap : Nat) (I : Int) (w : World) (hm : MX w) (h : BY w w.heap.size xs A cap) (hl : xs.length ≤ 100000) :
    Calls Try.prog 9 #[.slice A xs.length cap, .int .i64 I] w (ReadOk w (rdAt xs I)) := by
  have hlen := h.len
  obtain ⟨ZC, hZC⟩ : ∃ c : Array Value, #[.int .i64 0, .int .i64 0, .string ⟨#[]⟩, .slice none 0 0, .bool false, .bool false] = c := ⟨_, rfl⟩
  have hno : ∀ w', Below w.heap.size w w' → ReadOk w none (.returned (.tuple #[.agg #[.int .i64 0, .int .i64 0, .string ⟨#[]⟩, .slice none 0 0, .bool false, .bool false], .bool false])) w' := readOk_none w
  have b1 := below_new w (.cells #[.int .i64 0, .int .i64 0, .string ⟨#[]⟩, .slice none 0 0, .bool false, .bool false] 26)
  have x1 := cells_new w #[.int .i64 0, .int .i64 0, .string ⟨#[]⟩, .slice none 0 0, .bool false, .bool false] 26
  clear hZC ZC
  by_cases h0 : I < 0
  · have d0 : decide (I < 0) = true := by simpa using h0
    rw [show rdAt xs I = none by rw [rdAt, if_pos h0]]
    obtain ⟨Q, hQ⟩ : ∃ Q, ReadOk w none = Q := ⟨_, rfl⟩
    rw [hQ] at hno ⊢
    have HH := Lib.hid (And.intro hno b1)
    generalize xs.length = N at *
    clear h hno b1 x1 hQ hm
    go_enter Try.func9, Try.ntmps9
    go_wp2_with fail
    refine bodyPost_ret (v := .tuple #[.agg #[.int .i64 0, .int .i64 0, .string ⟨#[]⟩, .slice none 0 0, .bool false, .bool false], .bool false]) ?_ rfl ?_
    · simp [results, Try.results9, go_sem]
    · exact HH.out.1 _ HH.out.2
  have d0 : decide (I < 0) = false := by simpa using h0
  obtain ⟨k, rfl⟩ := Int.eq_ofNat_of_zero_le (show 0 ≤ I by omega)
  rw [show rdAt xs (k : Int) = rdT (xs.drop k) by rw [rdAt, if_neg h0, Int.toNat_natCast]]
  clear h0
  by_cases hlt : k < xs.length
  case neg =>
    have d1 : decide ((xs.length : Int) ≤ (k : Int)) = true := by simp; omega
    rw [List.drop_of_length_le (by omega)]
    show Calls Try.prog 9 #[.slice A xs.length cap, .int .i64 (k : Int)] w (ReadOk w none)
    obtain ⟨Q, hQ⟩ : ∃ Q, ReadOk w none = Q := ⟨_, rfl⟩
    rw [hQ] at hno ⊢
    have HH := Lib.hid (And.intro hno b1)
    generalize xs.length = N at *
    clear h hno b1 x1 hQ hm
    go_enter Try.func9, Try.ntmps9
    go_wp2_with fail
    refine bodyPost_ret (v := .tuple #[.agg #[.int .i64 0, .int .i64 0, .string ⟨#[]⟩, .slice none 0 0, .bool false, .bool false], .bool false]) ?_ rfl ?_
    · simp [results, Try.results9, go_sem]
    · exact HH.out.1 _ HH.out.2
  have d1 : decide ((xs.length : Int) ≤ (k : Int)) = false := by simp; omega
  obtain ⟨x, hx⟩ := at_lt (l := xs) (k := k) hlt
  obtain ⟨b, o, rfl, _, _⟩ := h.at hx
  have hY := h.drop hlt
  have hcap := h.l
  have hmx := h.m
  unfold maxLen at hmx
  have hdl : (xs.drop k).length = xs.length - k := by simp
  have hll : (xs.drop k).length ≤ 100000 := by omega
  obtain ⟨l, hl'⟩ : ∃ l, xs.drop k = l := ⟨_, rfl⟩
  rw [hl'] at hY hdl hll ⊢
  have hz1 : w.heap.size < (w.alloc (.cells #[.int .i64 0, .int .i64 0, .string ⟨#[]⟩, .slice none 0 0, .bool false, .bool false] 26)).heap.size := x1.lt
  have hY1 := hY.on b1
  have CL := beginsL_any b (o + k) (cap - k) l _ hY1
  have CE := beginsE_any b (o + k) (cap - k) l _ hY1
  have RT := fun kind n (hn : n < l.length) => readTag_any b (o + k) (cap - k) n kind l _ hY1 hn hll
  have hsome : ∀ T : TG, rdT l = some T → ∀ v w', OwnA w' w.heap.size T.attrs v → Below w.heap.size w w' → ReadOk w (rdT l) (.returned (.tuple #[tagV T v, .bool true])) w' := fun T hT v w' h1 h2 => by
    rw [hT]
    exact ⟨v, rfl, h1, h2⟩
  have hnone : rdT l = none → ∀ w', Below w.heap.size w w' → ReadOk w (rdT l) (.returned (.tuple #[.agg #[.int .i64 0, .int .i64 0, .string ⟨#[]⟩, .slice none 0 0, .bool false, .bool false], .bool false])) w' := fun hT w' h2 => by
    rw [hT]
    exact hno w' h2
  have hcase := rd_case l
  have hm1 := hm.on hm.pos b1
  obtain ⟨Q, hQ⟩ : ∃ Q, ReadOk w (rdT l) = Q := ⟨_, rfl⟩
  rw [hQ] at hsome hnone ⊢
  rw [hdl] at CL CE
  have hk2 : xs.length - k ≤ cap - k := by omega
  generalize hN : xs.length = N at *
  clear hQ hno h hl hlen hl' hY hm hx
  cases hcase with
  | st hb hr hn =>
    have C := RT 0 1 hn
    rw [tagT_at, hdl] at C
    have hok := hsome _ hr
    rw [hdl] at hok
    rw [hb] at CL
    obtain ⟨T, hTT⟩ : ∃ T, refGo (N - k) 0 rs0 (l.drop 1) = T := ⟨_, rfl⟩
    rw [hTT] at C hok
    obtain ⟨NB, hNB⟩ : ∃ S : ByteArray, ⟨(u8s T.name).toArray⟩ = S := ⟨_, rfl⟩
    unfold tagV strV at hok
    rw [hNB] at hok
    have HNB := Lib.hid hNB
    have HH := Lib.hid (And.intro CL (And.intro CE (And.intro C (And.intro hok (And.intro b1 x1)))))
    clear CL CE C hok b1 x1 RT hsome hnone hb hr hn hTT hNB hY1 hm1 hdl hll hN
    go_enter Try.func9, Try.ntmps9
    go_wp2_with fail
    refine HH.out.1.mono ?_
    rintro r w1 ⟨rfl, e1⟩
    obtain rfl := e1.symm
    go_wp2_with fail
    refine HH.out.2.2.1.mono ?_
    rintro r w2 ⟨v, rfl, ho, hb2⟩
    obtain ⟨Av, nv, cv, rfl⟩ := ho.slice
    have x2 : Cells w2 w.heap.size 26 #[.int .i64 0, .int .i64 0, .string ⟨#[]⟩, .slice none 0 0, .bool false, .bool false] := (hb2.block _ hz1).trans HH.out.2.2.2.2.2
    have s0 := x2.cell 0
    have t0 := x2.froz 0
    have s1 := x2.cell 1
    have t1 := x2.froz 1
    have s2 := x2.cell 2
    have t2 := x2.froz 2
    have s3 := x2.cell 3
    have t3 := x2.froz 3
    have s4 := x2.cell 4
    have t4 := x2.froz 4
    have s5 := x2.cell 5
    have t5 := x2.froz 5
    simp at s0 s1 s2 s3 s4 s5
    have ho2 : OwnA w2 (w.heap.size + 1) T.attrs (.slice Av nv cv) := by
      rw [World.size_alloc] at ho
      exact ho
    have hb3 : Below w.heap.size w w2 := HH.out.2.2.2.2.1.trans (hb2.mono (Nat.le_of_lt hz1))
    have HF := Lib.hid (And.intro ho2 hb3)
    clear ho ho2 hb2 hb3 x2
    unfold tagV strV
    rw [HNB.out]
    go_wp2_with fail
    refine bodyPost_ret (v := .tuple #[.agg #[.int .i64 (T.kind : Int), .int .i64 (T.size : Int), .string NB, .slice Av nv cv, .bool T.single, .bool T.closed], .bool true]) ?_ rfl ?_
    · simp [results, Try.results9, go_sem, s0, s1, s2, s3, s4, s5]
    · refine HH.out.2.2.2.1 _ _ ?_ ?_
      · exact ownsRow_base (((((((HF.out.1.set (by omega) 0 _).set (by omega) 1 _).set (by omega) 2 _).set (by omega) 3 _).set (by omega) 4 _).set (by omega) 5 _)) (by omega)
      · exact ((((((HF.out.2.setc (Nat.le_refl _) 0 _).setc (Nat.le_refl _) 1 _).setc (Nat.le_refl _) 2 _).setc (Nat.le_refl _) 3 _).setc (Nat.le_refl _) 4 _).setc (Nat.le_refl _) 5 _)
  | en hb0 hb hr hn =>
    have C := RT 1 2 hn
    rw [tagT_at, hdl] at C
    have hok := hsome _ hr
    rw [hdl] at hok
    rw [hb0] at CL
    rw [hb] at CE
    obtain ⟨T, hTT⟩ : ∃ T, refGo (N - k) 1 rs0 (l.drop 2) = T := ⟨_, rfl⟩
    rw [hTT] at C hok
    obtain ⟨NB, hNB⟩ : ∃ S : ByteArray, ⟨(u8s T.name).toArray⟩ = S := ⟨_, rfl⟩
    unfold tagV strV at hok
    rw [hNB] at hok
    have HNB := Lib.hid hNB
    have HH := Lib.hid (And.intro CL (And.intro CE (And.intro C (And.intro hok (And.intro b1 x1)))))
    clear CL CE C hok b1 x1 RT hsome hnone hb hr hn hTT hNB hY1 hm1 hdl hll hN
    go_enter Try.func9, Try.ntmps9
    go_wp2_with fail
    refine HH.out.1.mono ?_
    rintro r w1 ⟨rfl, e1⟩
    obtain rfl := e1.symm
    go_wp2_with fail
    refine HH.out.2.1.mono ?_
    rintro r w1 ⟨rfl, e2⟩
    obtain rfl := e2.symm
    go_wp2_with fail
    refine HH.out.2.2.1.mono ?_
    rintro r w2 ⟨v, rfl, ho, hb2⟩
    obtain ⟨Av, nv, cv, rfl⟩ := ho.slice
    have x2 : Cells w2 w.heap.size 26 #[.int .i64 0, .int .i64 0, .string ⟨#[]⟩, .slice none 0 0, .bool false, .bool false] := (hb2.block _ hz1).trans HH.out.2.2.2.2.2
    have s0 := x2.cell 0
    have t0 := x2.froz 0
    have s1 := x2.cell 1
    have t1 := x2.froz 1
    have s2 := x2.cell 2
    have t2 := x2.froz 2
    have s3 := x2.cell 3
    have t3 := x2.froz 3
    have s4 := x2.cell 4
    have t4 := x2.froz 4
    have s5 := x2.cell 5
    have t5 := x2.froz 5
    simp at s0 s1 s2 s3 s4 s5
    have ho2 : OwnA w2 (w.heap.size + 1) T.attrs (.slice Av nv cv) := by
      rw [World.size_alloc] at ho
      exact ho
    have hb3 : Below w.heap.size w w2 := HH.out.2.2.2.2.1.trans (hb2.mono (Nat.le_of_lt hz1))
    have HF := Lib.hid (And.intro ho2 hb3)
    clear ho ho2 hb2 hb3 x2
    unfold tagV strV
    rw [HNB.out]
    go_wp2_with fail
    refine bodyPost_ret (v := .tuple #[.agg #[.int .i64 (T.kind : Int), .int .i64 (T.size : Int), .string NB, .slice Av nv cv, .bool T.single, .bool T.closed], .bool true]) ?_ rfl ?_
    · simp [results, Try.results9, go_sem, s0, s1, s2, s3, s4, s5]
    · refine HH.out.2.2.2.1 _ _ ?_ ?_
      · exact ownsRow_base (((((((HF.out.1.set (by omega) 0 _).set (by omega) 1 _).set (by omega) 2 _).set (by omega) 3 _).set (by omega) 4 _).set (by omega) 5 _)) (by omega)
      · exact ((((((HF.out.2.setc (Nat.le_refl _) 0 _).setc (Nat.le_refl _) 1 _).setc (Nat.le_refl _) 2 _).setc (Nat.le_refl _) 3 _).setc (Nat.le_refl _) 4 _).setc (Nat.le_refl _) 5 _)
  | co hb0 hb2 hb hr hn =>
    rw [hb0] at CL
    rw [hb2] at CE
    have hok := hsome _ hr
    have v1 : (convert 22 22 (.slice (some ⟨(w.alloc (.cells #[.int .i64 0, .int .i64 0, .string ⟨#[]⟩, .slice none 0 0, .bool false, .bool false] 26)).heap.size, 0, none⟩) 4 4)).run Try.prog ((w.alloc (.cells #[.int .i64 0, .int .i64 0, .string ⟨#[]⟩, .slice none 0 0, .bool false, .bool false] 26)).alloc (.cells #[.int .u8 60, .int .u8 33, .int .u8 45, .int .u8 45] 5)) = .ok (.slice (some ⟨(w.alloc (.cells #[.int .i64 0, .int .i64 0, .string ⟨#[]⟩, .slice none 0 0, .bool false, .bool false] 26)).heap.size, 0, none⟩) 4 4) ((w.alloc (.cells #[.int .i64 0, .int .i64 0, .string ⟨#[]⟩, .slice none 0 0, .bool false, .bool false] 26)).alloc (.cells #[.int .u8 60, .int .u8 33, .int .u8 45, .int .u8 45] 5 (4, 5))) := Lib.run_convert_bytes_const _ 22 5 _ 4 4 Try.underlying22 Try.underlying5
    obtain ⟨W2, hW2⟩ : ∃ W, (w.alloc (.cells #[.int .i64 0, .int .i64 0, .string ⟨#[]⟩, .slice none 0 0, .bool false, .bool false] 26)).alloc (.cells #[.int .u8 60, .int .u8 33, .int .u8 45, .int .u8 45] 5 (4, 5)) = W := ⟨_, rfl⟩
    rw [hW2] at v1
    have b2 : Below (w.alloc (.cells #[.int .i64 0, .int .i64 0, .string ⟨#[]⟩, .slice none 0 0, .bool false, .bool false] 26)).heap.size (w.alloc (.cells #[.int .i64 0, .int .i64 0, .string ⟨#[]⟩, .slice none 0 0, .bool false, .bool false] 26)) W2 := by rw [← hW2]; exact below_new _ _
    have z2 : BY W2 W2.heap.size [60, 33, 45, 45] (some ⟨(w.alloc (.cells #[.int .i64 0, .int .i64 0, .string ⟨#[]⟩, .slice none 0 0, .bool false, .bool false] 26)).heap.size, 0, none⟩) 4 := by
      refine ⟨Nat.le_refl _, by unfold maxLen; omega, (fun e => nomatch e), (by decide), fun _ => ⟨_, 0, rfl, by rw [← hW2, World.size_alloc _ (.cells #[.int .u8 60, .int .u8 33, .int .u8 45, .int .u8 45] 5 (4, 5))]; exact Nat.lt_succ_self _, fun i y hy => ?_⟩⟩
      rw [← hW2, Nat.zero_add]
      refine (Cells'.cell ⟨_, heap_alloc_new _ _⟩ i).trans ?_
      have : i < 4 := (List.getElem?_eq_some_iff.1 hy).1
      rcases (show i = 0 ∨ i = 1 ∨ i = 2 ∨ i = 3 by omega) with rfl | rfl | rfl | rfl <;> (simp at hy; subst hy; rfl)
    have CP := hasPre_any W2 l [60, 33, 45, 45] _ _ _ _ _ _ (hY1.on b2) z2
    rw [hb, hdl] at CP
    rw [World.size_alloc] at v1 CP
    have x2 : Cells W2 w.heap.size 26 #[.int .i64 0, .int .i64 0, .string ⟨#[]⟩, .slice none 0 0, .bool false, .bool false] := x1.on b2
    have b12 : Below w.heap.size w W2 := b1.trans (b2.mono (Nat.le_of_lt hz1))
    have C := fun hm2 hy2 => readToC_any b (o + k) (cap - k) l W2 hm2 hy2 hn hll
    have C := C (hm1.on hm1.pos b2) (hY1.on b2)
    rw [hdl] at C
    rw [hdl] at hok
    obtain ⟨T, hTT⟩ : ∃ T, upGo (N - k) 2 [45, 45, 62] (l.drop 4) = T := ⟨_, rfl⟩
    have hTn : T.name = [] ∧ T.attrs = [] ∧ T.single = false := by rw [← hTT]; exact upGo_plain _ _ _ _
    rw [hTT] at C hok
    have hok2 : ∀ w', Below w.heap.size w w' → Q (.returned (.tuple #[.agg #[.int .i64 (T.kind : Int), .int .i64 (T.size : Int), .string ⟨#[]⟩, .slice none 0 0, .bool false, .bool T.closed], .bool true])) w' := fun w' h => by
      have h1 := hok (.slice none 0 0) w' (by rw [hTn.2.1]; exact ownA_nil _ _) h
      unfold tagV at h1
      rw [hTn.1, hTn.2.2] at h1
      exact h1
    have HU := Lib.hid (And.intro hTn hok2)
    have HH := Lib.hid (And.intro CL (And.intro CE (And.intro CP (And.intro C (And.intro b12 (And.intro x2 trivial))))))
    clear CL CE CP C hok hok2 b1 x1 b2 b12 x2 z2 RT hsome hnone hr hn hTT hTn hY1 hm1 hdl hll hN hb 
    go_enter Try.func9, Try.ntmps9
    go_wp2_with fail
    refine HH.out.1.mono ?_
    rintro r w1 ⟨rfl, e1⟩
    obtain rfl := e1.symm
    go_wp2_with fail
    refine HH.out.2.1.mono ?_
    rintro r w1 ⟨rfl, e2⟩
    obtain rfl := e2.symm
    go_wp2_with fail
    refine HH.out.2.2.1.mono ?_
    rintro r w3 ⟨rfl, e3⟩
    obtain rfl := e3.symm
    clear v1 hW2
    go_wp2_with fail
    refine HH.out.2.2.2.1.mono ?_
    rintro r w3 ⟨rfl, hb3⟩
    have x3 := HH.out.2.2.2.2.2.1.on hb3
    have b3 := HH.out.2.2.2.2.1.trans (hb3.mono HH.out.2.2.2.2.1.size)
    clear hb3
    have s0 := x3.cell 0
    have t0 := x3.froz 0
    have s1 := x3.cell 1
    have t1 := x3.froz 1
    have s2 := x3.cell 2
    have t2 := x3.froz 2
    have s3 := x3.cell 3
    have t3 := x3.froz 3
    have s4 := x3.cell 4
    have t4 := x3.froz 4
    have s5 := x3.cell 5
    have t5 := x3.froz 5
    simp at s0 s1 s2 s3 s4 s5
    have HF := Lib.hid b3
    clear x3 b3
    go_wp2_with fail
    refine bodyPost_ret (v := .tuple #[.agg #[.int .i64 (T.kind : Int), .int .i64 (T.size : Int), .string ⟨#[]⟩, .slice none 0 0, .bool false, .bool T.closed], .bool true]) ?_ rfl ?_
    · simp [results, Try.results9, go_sem, s0, s1, s2, s3, s4, s5]
    · refine HU.out.2 _ ?_
      exact ((((((HF.out.setc (Nat.le_refl _) 0 _).setc (Nat.le_refl _) 1 _).setc (Nat.le_refl _) 2 _).setc (Nat.le_refl _) 3 _).setc (Nat.le_refl _) 4 _).setc (Nat.le_refl _) 5 _)
  | de hb0 hb2 hb3 hb hr hn =>
    rw [hb0] at CL
    rw [hb2] at CE
    have hok := hsome _ hr
    have v1 : (convert 22 22 (.slice (some ⟨(w.alloc (.cells #[.int .i64 0, .int .i64 0, .string ⟨#[]⟩, .slice none 0 0, .bool false, .bool false] 26)).heap.size, 0, none⟩) 4 4)).run Try.prog ((w.alloc (.cells #[.int .i64 0, .int .i64 0, .string ⟨#[]⟩, .slice none 0 0, .bool false, .bool false] 26)).alloc (.cells #[.int .u8 60, .int .u8 33, .int .u8 45, .int .u8 45] 5)) = .ok (.slice (some ⟨(w.alloc (.cells #[.int .i64 0, .int .i64 0, .string ⟨#[]⟩, .slice none 0 0, .bool false, .bool false] 26)).heap.size, 0, none⟩) 4 4) ((w.alloc (.cells #[.int .i64 0, .int .i64 0, .string ⟨#[]⟩, .slice none 0 0, .bool false, .bool false] 26)).alloc (.cells #[.int .u8 60, .int .u8 33, .int .u8 45, .int .u8 45] 5 (4, 5))) := Lib.run_convert_bytes_const _ 22 5 _ 4 4 Try.underlying22 Try.underlying5
    obtain ⟨W2, hW2⟩ : ∃ W, (w.alloc (.cells #[.int .i64 0, .int .i64 0, .string ⟨#[]⟩, .slice none 0 0, .bool false, .bool false] 26)).alloc (.cells #[.int .u8 60, .int .u8 33, .int .u8 45, .int .u8 45] 5 (4, 5)) = W := ⟨_, rfl⟩
    rw [hW2] at v1
    have b2 : Below (w.alloc (.cells #[.int .i64 0, .int .i64 0, .string ⟨#[]⟩, .slice none 0 0, .bool false, .bool false] 26)).heap.size (w.alloc (.cells #[.int .i64 0, .int .i64 0, .string ⟨#[]⟩, .slice none 0 0, .bool false, .bool false] 26)) W2 := by rw [← hW2]; exact below_new _ _
    have z2 : BY W2 W2.heap.size [60, 33, 45, 45] (some ⟨(w.alloc (.cells #[.int .i64 0, .int .i64 0, .string ⟨#[]⟩, .slice none 0 0, .bool false, .bool false] 26)).heap.size, 0, none⟩) 4 := by
      refine ⟨Nat.le_refl _, by unfold maxLen; omega, (fun e => nomatch e), (by decide), fun _ => ⟨_, 0, rfl, by rw [← hW2, World.size_alloc _ (.cells #[.int .u8 60, .int .u8 33, .int .u8 45, .int .u8 45] 5 (4, 5))]; exact Nat.lt_succ_self _, fun i y hy => ?_⟩⟩
      rw [← hW2, Nat.zero_add]
      refine (Cells'.cell ⟨_, heap_alloc_new _ _⟩ i).trans ?_
      have : i < 4 := (List.getElem?_eq_some_iff.1 hy).1
      rcases (show i = 0 ∨ i = 1 ∨ i = 2 ∨ i = 3 by omega) with rfl | rfl | rfl | rfl <;> (simp at hy; subst hy; rfl)
    have CP := hasPre_any W2 l [60, 33, 45, 45] _ _ _ _ _ _ (hY1.on b2) z2
    rw [hb3, hdl] at CP
    rw [World.size_alloc] at v1 CP
    have x2 : Cells W2 w.heap.size 26 #[.int .i64 0, .int .i64 0, .string ⟨#[]⟩, .slice none 0 0, .bool false, .bool false] := x1.on b2
    have b12 : Below w.heap.size w W2 := b1.trans (b2.mono (Nat.le_of_lt hz1))
    have CD := fun W gs (hs : Cells W gs 9 #[strV [33, 63, 47]]) (hb : Below W2.heap.size W2 W) => beginsD_any b (o + k) (cap - k) l W ((hY1.on b2).on hb) gs hs
    have C := fun W (hb : Below W2.heap.size W2 W) => readToD_any b (o + k) (cap - k) l W ((hm1.on hm1.pos b2).on (hm1.on hm1.pos b2).pos hb) ((hY1.on b2).on hb) hn hll
    rw [hdl] at C hok
    rw [hb, hdl] at CD
    obtain ⟨T, hTT⟩ : ∃ T, upGo (N - k) 3 [62] (l.drop 1) = T := ⟨_, rfl⟩
    have hTn : T.name = [] ∧ T.attrs = [] ∧ T.single = false := by rw [← hTT]; exact upGo_plain _ _ _ _
    rw [hTT] at C hok
    have hok2 : ∀ w', Below w.heap.size w w' → Q (.returned (.tuple #[.agg #[.int .i64 (T.kind : Int), .int .i64 (T.size : Int), .string ⟨#[]⟩, .slice none 0 0, .bool false, .bool T.closed], .bool true])) w' := fun w' h => by
      have h1 := hok (.slice none 0 0) w' (by rw [hTn.2.1]; exact ownA_nil _ _) h
      unfold tagV at h1
      rw [hTn.1, hTn.2.2] at h1
      exact h1
    have HU := Lib.hid (And.intro hTn hok2)
    have HH := Lib.hid (And.intro CL (And.intro CE (And.intro CP (And.intro C (And.intro b12 (And.intro x2 CD))))))
    clear CL CE CP C hok hok2 b1 x1 b2 b12 x2 z2 RT hsome hnone hr hn hTT hTn hY1 hm1 hdl hll hN hb CD hb0 hb2 hb3
    go_enter Try.func9, Try.ntmps9
    go_wp2_with fail
    refine HH.out.1.mono ?_
    rintro r w1 ⟨rfl, e1⟩
    obtain rfl := e1.symm
    go_wp2_with fail
    refine HH.out.2.1.mono ?_
    rintro r w1 ⟨rfl, e2⟩
    obtain rfl := e2.symm
    go_wp2_with fail
    refine HH.out.2.2.1.mono ?_
    rintro r w3 ⟨rfl, e3⟩
    obtain rfl := e3.symm
    clear v1 hW2
    go_wp2_with fail
    refine (mkO_any ⟨#[33, 63, 47]⟩ _).mono ?_
    rintro r w3 ⟨gs, rfl, hs3, hb3⟩
    have x3 := HH.out.2.2.2.2.2.1.on hb3
    have b3 := HH.out.2.2.2.2.1.trans (hb3.mono HH.out.2.2.2.2.1.size)
    have H3 := Lib.hid (And.intro hs3 (And.intro hb3 (And.intro x3 b3)))
    clear hs3 hb3 x3 b3
    go_wp2_with fail
    refine (HH.out.2.2.2.2.2.2 w3 gs H3.out.1 H3.out.2.1).mono ?_
    rintro r w4 ⟨rfl, hb4⟩
    have H4 := Lib.hid (And.intro (H3.out.2.1.trans (hb4.mono H3.out.2.1.size)) (And.intro (H3.out.2.2.1.on hb4) (H3.out.2.2.2.trans (hb4.mono H3.out.2.2.2.size))))
    clear hb4
    go_wp2_with fail
    refine (HH.out.2.2.2.1 w4 H4.out.1).mono ?_
    rintro r w5 ⟨rfl, hb5⟩
    have x3 := H4.out.2.1.on hb5
    have b3 := H4.out.2.2.trans (hb5.mono H4.out.2.2.size)
    clear hb5
    have s0 := x3.cell 0
    have t0 := x3.froz 0
    have s1 := x3.cell 1
    have t1 := x3.froz 1
    have s2 := x3.cell 2
    have t2 := x3.froz 2
    have s3 := x3.cell 3
    have t3 := x3.froz 3
    have s4 := x3.cell 4
    have t4 := x3.froz 4
    have s5 := x3.cell 5
    have t5 := x3.froz 5
    simp at s0 s1 s2 s3 s4 s5
    have HF := Lib.hid b3
    clear x3 b3
    go_wp2_with fail
    refine bodyPost_ret (v := .tuple #[.agg #[.int .i64 (T.kind : Int), .int .i64 (T.size : Int), .string ⟨#[]⟩, .slice none 0 0, .bool false, .bool T.closed], .bool true]) ?_ rfl ?_
    · simp [results, Try.results9, go_sem, s0, s1, s2, s3, s4, s5]
    · refine HU.out.2 _ ?_
      exact ((((((HF.out.setc (Nat.le_refl _) 0 _).setc (Nat.le_refl _) 1 _).setc (Nat.le_refl _) 2 _).setc (Nat.le_refl _) 3 _).setc (Nat.le_refl _) 4 _).setc (Nat.le_refl _) 5 _)
  | no hb0 hb2 hb3 hb hr =>
    rw [hb0] at CL
    rw [hb2] at CE
    have hok := hnone hr
    have v1 : (convert 22 22 (.slice (some ⟨(w.alloc (.cells #[.int .i64 0, .int .i64 0, .string ⟨#[]⟩, .slice none 0 0, .bool false, .bool false] 26)).heap.size, 0, none⟩) 4 4)).run Try.prog ((w.alloc (.cells #[.int .i64 0, .int .i64 0, .string ⟨#[]⟩, .slice none 0 0, .bool false, .bool false] 26)).alloc (.cells #[.int .u8 60, .int .u8 33, .int .u8 45, .int .u8 45] 5)) = .ok (.slice (some ⟨(w.alloc (.cells #[.int .i64 0, .int .i64 0, .string ⟨#[]⟩, .slice none 0 0, .bool false, .bool false] 26)).heap.size, 0, none⟩) 4 4) ((w.alloc (.cells #[.int .i64 0, .int .i64 0, .string ⟨#[]⟩, .slice none 0 0, .bool false, .bool false] 26)).alloc (.cells #[.int .u8 60, .int .u8 33, .int .u8 45, .int .u8 45] 5 (4, 5))) := Lib.run_convert_bytes_const _ 22 5 _ 4 4 Try.underlying22 Try.underlying5
    obtain ⟨W2, hW2⟩ : ∃ W, (w.alloc (.cells #[.int .i64 0, .int .i64 0, .string ⟨#[]⟩, .slice none 0 0, .bool false, .bool false] 26)).alloc (.cells #[.int .u8 60, .int .u8 33, .int .u8 45, .int .u8 45] 5 (4, 5)) = W := ⟨_, rfl⟩
    rw [hW2] at v1
    have b2 : Below (w.alloc (.cells #[.int .i64 0, .int .i64 0, .string ⟨#[]⟩, .slice none 0 0, .bool false, .bool false] 26)).heap.size (w.alloc (.cells #[.int .i64 0, .int .i64 0, .string ⟨#[]⟩, .slice none 0 0, .bool false, .bool false] 26)) W2 := by rw [← hW2]; exact below_new _ _
    have z2 : BY W2 W2.heap.size [60, 33, 45, 45] (some ⟨(w.alloc (.cells #[.int .i64 0, .int .i64 0, .string ⟨#[]⟩, .slice none 0 0, .bool false, .bool false] 26)).heap.size, 0, none⟩) 4 := by
      refine ⟨Nat.le_refl _, by unfold maxLen; omega, (fun e => nomatch e), (by decide), fun _ => ⟨_, 0, rfl, by rw [← hW2, World.size_alloc _ (.cells #[.int .u8 60, .int .u8 33, .int .u8 45, .int .u8 45] 5 (4, 5))]; exact Nat.lt_succ_self _, fun i y hy => ?_⟩⟩
      rw [← hW2, Nat.zero_add]
      refine (Cells'.cell ⟨_, heap_alloc_new _ _⟩ i).trans ?_
      have : i < 4 := (List.getElem?_eq_some_iff.1 hy).1
      rcases (show i = 0 ∨ i = 1 ∨ i = 2 ∨ i = 3 by omega) with rfl | rfl | rfl | rfl <;> (simp at hy; subst hy; rfl)
    have CP := hasPre_any W2 l [60, 33, 45, 45] _ _ _ _ _ _ (hY1.on b2) z2
    rw [hb3, hdl] at CP
    rw [World.size_alloc] at v1 CP
    have x2 : Cells W2 w.heap.size 26 #[.int .i64 0, .int .i64 0, .string ⟨#[]⟩, .slice none 0 0, .bool false, .bool false] := x1.on b2
    have b12 : Below w.heap.size w W2 := b1.trans (b2.mono (Nat.le_of_lt hz1))
    have CD := fun W gs (hs : Cells W gs 9 #[strV [33, 63, 47]]) (hb : Below W2.heap.size W2 W) => beginsD_any b (o + k) (cap - k) l W ((hY1.on b2).on hb) gs hs
    rw [hb, hdl] at CD
    have HU := Lib.hid hok
    have HH := Lib.hid (And.intro CL (And.intro CE (And.intro CP (And.intro CD (And.intro b12 x2)))))
    clear CL CE CP CD hok b1 x1 b2 b12 x2 z2 RT hsome hnone hr hY1 hm1 hdl hll hN hb hb0 hb2 hb3
    go_enter Try.func9, Try.ntmps9
    go_wp2_with fail
    refine HH.out.1.mono ?_
    rintro r w1 ⟨rfl, e1⟩
    obtain rfl := e1.symm
    go_wp2_with fail
    refine HH.out.2.1.mono ?_
    rintro r w1 ⟨rfl, e2⟩
    obtain rfl := e2.symm
    go_wp2_with fail
    refine HH.out.2.2.1.mono ?_
    rintro r w3 ⟨rfl, e3⟩
    obtain rfl := e3.symm
    clear v1 hW2
    go_wp2_with fail
    refine (mkO_any ⟨#[33, 63, 47]⟩ _).mono ?_
    rintro r w3 ⟨gs, rfl, hs3, hb3⟩
    have x3 := HH.out.2.2.2.2.2.on hb3
    have b3 := HH.out.2.2.2.2.1.trans (hb3.mono HH.out.2.2.2.2.1.size)
    have H3 := Lib.hid (And.intro hs3 (And.intro hb3 (And.intro x3 b3)))
    clear hs3 hb3 x3 b3
    go_wp2_with fail
    refine (HH.out.2.2.2.1 w3 gs H3.out.1 H3.out.2.1).mono ?_
    rintro r w4 ⟨rfl, hb4⟩
    have x3 := H3.out.2.2.1.on hb4
    have b3 := H3.out.2.2.2.trans (hb4.mono H3.out.2.2.2.size)
    clear hb4
    have s0 := x3.cell 0
    have t0 := x3.froz 0
    have s1 := x3.cell 1
    have t1 := x3.froz 1
    have s2 := x3.cell 2
    have t2 := x3.froz 2
    have s3 := x3.cell 3
    have t3 := x3.froz 3
    have s4 := x3.cell 4
    have t4 := x3.froz 4
    have s5 := x3.cell 5
    have t5 := x3.froz 5
    simp at s0 s1 s2 s3 s4 s5
    have HF := Lib.hid b3
    clear x3 b3
    go_wp2_with fail
    refine bodyPost_ret (v := .tuple #[.agg #[.int .i64 0, .int .i64 0, .string ⟨#[]⟩, .slice none 0 0, .bool false, .bool false], .bool false]) ?_ rfl ?_
    · simp [results, Try.results9, go_sem, s0, s1, s2, s3, s4, s5]
    · exact HU.out _ ((((((HF.out.setc (Nat.le_refl _) 0 _).setc (Nat.le_refl _) 1 _).setc (Nat.le_refl _) 2 _).setc (Nat.le_refl _) 3 _).setc (Nat.le_refl _) 4 _).setc (Nat.le_refl _) 5 _)
end Go.Proofs.Ytplnkmojkdbbnaa
