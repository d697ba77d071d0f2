/-
  What the rows of flat lean on, part h.
-/
import Derived.Test.YtfafhbgkmlmmdaaGreatDoorYqg
import Derived.WalkKit
import Derived.BigQuiet
import Derived.Deep.QuietTactic
import Derived.Outline
import Derived.Lib.Hide
import Derived.Below
import Derived.Lib.DecodeNEq
import Derived.Shelf.SlicesE.Clone
import Derived.Laws.IdiomStrings
import Derived.Laws.OwnMore
import Derived.OwnWalk
import Derived.RangeFuncRecord
import Derived.RangeFuncBox
import Derived.Deep.AppendLies
import Derived.Test.YtfafhbgkmlmmdaaGreatDoorProg
import Derived.Lib.QuietBelow
import Derived.StillTailTactics
import Derived.Maps.OwnOps
import Derived.Maps.OwnSet
import Derived.Maps.Views
import Derived.BigRegion
import Derived.Deep.RegionLaw
import Derived.Laws.AppendOwnNone
import Derived.Deep.Slices
import Derived.Lib.Split
import Derived.Lib.IndexMore
import Derived.Lib.RuneBytes
import Derived.Lib.Small
import Derived.Great.Walk
import Derived.Laws.Rows
import Derived.Laws.Tables
set_option maxRecDepth 100000
set_option maxHeartbeats 40000000
namespace Go.Proofs.YtfafhbgkmlmmdaaGreatDoor.G
open Go.RowKit Go.Shelf Go.Lib Go.Maps Go.Sort
theorem tagT_at {N kind : Nat} {l : List Nat} {n : Nat} : tgo N kind (nameL eName l n n) [] (l.drop (n + rnN eName l n)) = refGo N kind rs0 (l.drop n) := by
 unfold rs0 tgo
 rw [ref_name, rnN_drop]
 congr 2
 unfold nameL
 rw [List.nil_append, List.drop_take]
 congr 1
 rw [Nat.add_sub_cancel_left]
 exact (runW_eq_take _ _).symm
theorem beg1 (p : Nat → Bool) (d c : Nat) (t : List Nat) : begB [60] p (d :: c :: t) = (d == 60 && p c) := by
 simp [begB]
theorem beg2 (p : Nat → Bool) (d c : Nat) (t : List Nat) : begB [60, 47] p (d :: c :: t) = ((d == 60 && c == 47) && (t.head?.map p).getD false) := by
 cases t <;> simp [begB]
theorem beg_short (pre : List Nat) (p : Nat → Bool) {l : List Nat} (h : l.length ≤ pre.length) : begB pre p l = false := by
 unfold begB
 rw [List.getElem?_eq_none h]
 simp
inductive RdCase (l : List Nat) : Prop
 | st (h : begB [60] ltrB l = true) (r : rdT l = some (refGo l.length 0 rs0 (l.drop 1))) (n : 1 < l.length)
 | en (h1 : begB [60] ltrB l = false) (h : begB [60, 47] ltrB l = true) (r : rdT l = some (refGo l.length 1 rs0 (l.drop 2))) (n : 2 < l.length)
 | co (h1 : begB [60] ltrB l = false) (h2 : begB [60, 47] ltrB l = false) (h : ([60, 33, 45, 45] : List Nat).isPrefixOf l = true) (r : rdT l = some (upGo l.length 2 [45, 45, 62] (l.drop 4))) (n : 4 ≤ l.length)
 | de (h1 : begB [60] ltrB l = false) (h2 : begB [60, 47] ltrB l = false) (h3 : ([60, 33, 45, 45] : List Nat).isPrefixOf l = false) (h : begB [60] declB l = true) (r : rdT l = some (upGo l.length 3 [62] (l.drop 1))) (n : 1 ≤ l.length)
 | no (h1 : begB [60] ltrB l = false) (h2 : begB [60, 47] ltrB l = false) (h3 : ([60, 33, 45, 45] : List Nat).isPrefixOf l = false) (h : begB [60] declB l = false) (r : rdT l = none)
theorem rd_case : ∀ (l : List Nat), RdCase l
 | [] => .no rfl rfl rfl rfl rfl
 | [d] => .no (beg_short _ _ (by simp)) (beg_short _ _ (by simp)) (by simp [List.isPrefixOf]) (beg_short _ _ (by simp)) rfl
 | d :: c :: t => by
  by_cases hd : d = 60
  case neg =>
   have hb : (d == 60) = false := by simp [hd]
   exact .no (by rw [beg1, hb]; rfl) (by rw [beg2, hb]; rfl) (by simp [List.isPrefixOf]; intro h; exact absurd h.symm hd) (by rw [beg1, hb]; rfl) (by simp [rdT, hd])
  subst hd
  by_cases hc : ltrB c = true
  ·exact .st (by rw [beg1, hc]; rfl) (by simp [rdT, hc]) (by simp)
  have hcf : ltrB c = false := by simpa using hc
  have h1 : begB [60] ltrB (60 :: c :: t) = false := by rw [beg1, hcf]; rfl
  by_cases h47 : c = 47 ∧ t.head?.map ltrB = some true
  ·obtain ⟨rfl, ht⟩ := h47
   refine .en h1 (by rw [beg2, ht]; rfl) (by simp [rdT, hcf, ht]) ?_
   cases t with
   | nil => simp at ht
   | cons a t => simp
  have h2 : begB [60, 47] ltrB (60 :: c :: t) = false := by
   rw [beg2]
   by_cases e : c = 47
   ·have : (t.head?.map ltrB).getD false = false := by
     cases e2 : t.head?.map ltrB with
     | none => rfl
     | some v => cases v with
      | true => exact absurd ⟨e, e2⟩ h47
      | false => rfl
    rw [this]
    simp
   ·simp [e]
  by_cases h33 : c = 33 ∧ t.take 2 = [45, 45]
  ·obtain ⟨rfl, ht⟩ := h33
   obtain ⟨u, rfl⟩ : ∃ u, t = 45 :: 45 :: u := ⟨t.drop 2, by rw [← List.take_append_drop 2 t, ht]; simp⟩
   exact .co h1 h2 (by simp [List.isPrefixOf]) (by simp [rdT, hcf]) (by simp)
  have h3 : ([60, 33, 45, 45] : List Nat).isPrefixOf (60 :: c :: t) = false := by
   rw [Bool.eq_false_iff]
   intro e
   apply h33
   obtain ⟨u, hu⟩ := List.isPrefixOf_iff_prefix.1 e
   simp at hu
   obtain ⟨rfl, rfl⟩ := hu
   exact ⟨rfl, rfl⟩
  by_cases hde : c = 33 ∨ c = 63 ∨ c = 47
  ·refine .de h1 h2 h3 (by rw [beg1]; rcases hde with rfl | rfl | rfl <;> rfl) ?_ (by simp)
   have hn : ([62] : List Nat).isPrefixOf (c :: t) = false := by rcases hde with rfl | rfl | rfl <;> rfl
   have hu : upGo (60 :: c :: t).length 3 [62] ((60 :: c :: t).drop 1) = upGo (t.length + 2) 3 [62] t := by
    show upGo _ 3 [62] (c :: t) = _
    rw [upGo, hn]
    simp
   rw [hu]
   simp only [rdT, hcf, if_neg h47, if_neg h33, if_pos hde, ne_eq, not_true_eq_false, if_false, Bool.false_eq_true]
  ·refine .no h1 h2 h3 ?_ ?_
   ·rw [beg1]
    simp [declB]
    omega
   ·simp only [rdT, hcf, if_neg h47, if_neg h33, if_neg hde, ne_eq, not_true_eq_false, if_false, Bool.false_eq_true]
theorem upGo_plain (N kind : Nat) (e : List Nat) : ∀ l, (upGo N kind e l).name = [] ∧ (upGo N kind e l).attrs = [] ∧ (upGo N kind e l).single = false
 | [] => ⟨rfl, rfl, rfl⟩
 | c :: t => by
  rw [upGo]
  split
  ·exact ⟨rfl, rfl, rfl⟩
  ·exact upGo_plain N kind e t
def rdAt (xs : List Nat) (I : Int) : Option TG := if I < 0 then none else rdT (xs.drop I.toNat)
def ReadOk (w : World) (O : Option TG) (e : Ending) (w' : World) : Prop := ∃ v, e = .returned (.tuple #[tagV (O.getD tg0) v, .bool O.isSome]) ∧ OwnA w' w.heap.size (O.getD tg0).attrs v ∧ Below w.heap.size w w'
theorem hasPre_any (w : World) (xs ys : List Nat) (A A2 : Option Addr) (cap c2 B B2 : Nat) (hx : BY w B xs A cap) (hy : BY w B2 ys A2 c2) :
  Calls Tryz.prog 127 #[.slice A xs.length cap, .slice A2 ys.length c2] w fun e w' => e = .returned (.bool (ys.isPrefixOf xs)) ∧ w' = w := by
 have C := Tryz.bytes_HasPrefix_all A A2 xs.length cap ys.length c2 _ _ w (by simp) (by simp) hx.l hx.bin hy.bin
 rw [bytesOf_cast, bytesOf_cast, Lib.hasPrefix, isPrefixOf_map _ _ hy.i hx.i] at C
 exact C
theorem readOk_none (w w' : World) (h : Below w.heap.size w w') : ReadOk w none (.returned (.tuple #[.agg #[.int .i64 0, .int .i64 0, .string ⟨#[]⟩, .slice none 0 0, .bool false, .bool false], .bool false])) w' := ⟨_, rfl, ownA_nil _ _, h⟩
theorem read_any (xs : List Nat) (A : Option Addr) (cap : Nat) (I : Int) (w : World) (hm : MX w) (h : BY w w.heap.size xs A cap) (hl : xs.length ≤ 100000) :
  Calls Tryz.prog 98 #[.slice A xs.length cap, .int .i64 I] w (ReadOk w (rdAt xs I)) := by
 have hlen := h.len
 obtain ⟨ZC, hZC⟩ : ∃ c : Array Value, #[.int .i64 0, .int .i64 0, .string ⟨#[]⟩, .slice none 0 0, .bool false, .bool false] = c := ⟨_, rfl⟩
 have hno : ∀ w', Below w.heap.size w w' → ReadOk w none (.returned (.tuple #[.agg #[.int .i64 0, .int .i64 0, .string ⟨#[]⟩, .slice none 0 0, .bool false, .bool false], .bool false])) w' := readOk_none w
 have b1 := below_new w (.cells #[.int .i64 0, .int .i64 0, .string ⟨#[]⟩, .slice none 0 0, .bool false, .bool false] 142)
 have x1 := cells_new w #[.int .i64 0, .int .i64 0, .string ⟨#[]⟩, .slice none 0 0, .bool false, .bool false] 142
 clear hZC ZC
 by_cases h0 : I < 0
 ·have d0 : decide (I < 0) = true := by simpa using h0
  rw [show rdAt xs I = none by rw [rdAt, if_pos h0]]
  obtain ⟨Q, hQ⟩ : ∃ Q, ReadOk w none = Q := ⟨_, rfl⟩
  rw [hQ] at hno ⊢
  have HH := Lib.hid (And.intro hno b1)
  generalize xs.length = N at *
  clear h hno b1 x1 hQ hm
  go_enter Tryz.func98, Tryz.ntmps98
  go_wp2_with fail
  refine bodyPost_ret (v := .tuple #[.agg #[.int .i64 0, .int .i64 0, .string ⟨#[]⟩, .slice none 0 0, .bool false, .bool false], .bool false]) ?_ rfl ?_
  ·simp [results, Tryz.results98, go_sem]
  ·exact HH.out.1 _ HH.out.2
 have d0 : decide (I < 0) = false := by simpa using h0
 obtain ⟨k, rfl⟩ := Int.eq_ofNat_of_zero_le (show 0 ≤ I by omega)
 rw [show rdAt xs (k : Int) = rdT (xs.drop k) by rw [rdAt, if_neg h0, Int.toNat_natCast]]
 clear h0
 by_cases hlt : k < xs.length
 case neg =>
  have d1 : decide ((xs.length : Int) ≤ (k : Int)) = true := by simp; omega
  rw [List.drop_of_length_le (by omega)]
  show Calls Tryz.prog 98 #[.slice A xs.length cap, .int .i64 (k : Int)] w (ReadOk w none)
  obtain ⟨Q, hQ⟩ : ∃ Q, ReadOk w none = Q := ⟨_, rfl⟩
  rw [hQ] at hno ⊢
  have HH := Lib.hid (And.intro hno b1)
  generalize xs.length = N at *
  clear h hno b1 x1 hQ hm
  go_enter Tryz.func98, Tryz.ntmps98
  go_wp2_with fail
  refine bodyPost_ret (v := .tuple #[.agg #[.int .i64 0, .int .i64 0, .string ⟨#[]⟩, .slice none 0 0, .bool false, .bool false], .bool false]) ?_ rfl ?_
  ·simp [results, Tryz.results98, go_sem]
  ·exact HH.out.1 _ HH.out.2
 have d1 : decide ((xs.length : Int) ≤ (k : Int)) = false := by simp; omega
 obtain ⟨x, hx⟩ := at_lt (l := xs) (k := k) hlt
 obtain ⟨b, o, rfl, _, _⟩ := h.at hx
 have hY := h.drop hlt
 have hcap := h.l
 have hmx := h.m
 unfold maxLen at hmx
 have hdl : (xs.drop k).length = xs.length - k := by simp
 have hll : (xs.drop k).length ≤ 100000 := by omega
 obtain ⟨l, hl'⟩ : ∃ l, xs.drop k = l := ⟨_, rfl⟩
 rw [hl'] at hY hdl hll ⊢
 have hz1 : w.heap.size < (w.alloc (.cells #[.int .i64 0, .int .i64 0, .string ⟨#[]⟩, .slice none 0 0, .bool false, .bool false] 142)).heap.size := x1.lt
 have hY1 := hY.on b1
 have CL := beginsL_any b (o + k) (cap - k) l _ hY1
 have CE := beginsE_any b (o + k) (cap - k) l _ hY1
 have RT := fun kind n (hn : n < l.length) => readTag_any b (o + k) (cap - k) n kind l _ hY1 hn hll
 have hsome : ∀ T : TG, rdT l = some T → ∀ v w', OwnA w' w.heap.size T.attrs v → Below w.heap.size w w' → ReadOk w (rdT l) (.returned (.tuple #[tagV T v, .bool true])) w' := fun T hT v w' h1 h2 => by
  rw [hT]
  exact ⟨v, rfl, h1, h2⟩
 have hnone : rdT l = none → ∀ w', Below w.heap.size w w' → ReadOk w (rdT l) (.returned (.tuple #[.agg #[.int .i64 0, .int .i64 0, .string ⟨#[]⟩, .slice none 0 0, .bool false, .bool false], .bool false])) w' := fun hT w' h2 => by
  rw [hT]
  exact hno w' h2
 have hcase := rd_case l
 have hm1 := hm.on hm.pos b1
 obtain ⟨Q, hQ⟩ : ∃ Q, ReadOk w (rdT l) = Q := ⟨_, rfl⟩
 rw [hQ] at hsome hnone ⊢
 rw [hdl] at CL CE
 have hk2 : xs.length - k ≤ cap - k := by omega
 generalize hN : xs.length = N at *
 clear hQ hno h hl hlen hl' hY hm hx
 cases hcase with
 | st hb hr hn =>
  have C := RT 0 1 hn
  rw [tagT_at, hdl] at C
  have hok := hsome _ hr
  rw [hdl] at hok
  rw [hb] at CL
  obtain ⟨T, hTT⟩ : ∃ T, refGo (N - k) 0 rs0 (l.drop 1) = T := ⟨_, rfl⟩
  rw [hTT] at C hok
  obtain ⟨NB, hNB⟩ : ∃ S : ByteArray, ⟨(u8s T.name).toArray⟩ = S := ⟨_, rfl⟩
  unfold tagV strV at hok
  rw [hNB] at hok
  have HNB := Lib.hid hNB
  have HH := Lib.hid (And.intro CL (And.intro CE (And.intro C (And.intro hok (And.intro b1 x1)))))
  clear CL CE C hok b1 x1 RT hsome hnone hb hr hn hTT hNB hY1 hm1 hdl hll hN
  go_enter Tryz.func98, Tryz.ntmps98
  go_wp2_with fail
  refine HH.out.1.mono ?_
  rintro r w1 ⟨rfl, e1⟩
  obtain rfl := e1.symm
  go_wp2_with fail
  refine HH.out.2.2.1.mono ?_
  rintro r w2 ⟨v, rfl, ho, hb2⟩
  obtain ⟨Av, nv, cv, rfl⟩ := ho.slice
  have x2 : Cells w2 w.heap.size 142 #[.int .i64 0, .int .i64 0, .string ⟨#[]⟩, .slice none 0 0, .bool false, .bool false] := (hb2.block _ hz1).trans HH.out.2.2.2.2.2
  have s0 := x2.cell 0
  have t0 := x2.froz 0
  have s1 := x2.cell 1
  have t1 := x2.froz 1
  have s2 := x2.cell 2
  have t2 := x2.froz 2
  have s3 := x2.cell 3
  have t3 := x2.froz 3
  have s4 := x2.cell 4
  have t4 := x2.froz 4
  have s5 := x2.cell 5
  have t5 := x2.froz 5
  simp at s0 s1 s2 s3 s4 s5
  have ho2 : OwnA w2 (w.heap.size + 1) T.attrs (.slice Av nv cv) := by
   rw [World.size_alloc] at ho
   exact ho
  have hb3 : Below w.heap.size w w2 := HH.out.2.2.2.2.1.trans (hb2.mono (Nat.le_of_lt hz1))
  have HF := Lib.hid (And.intro ho2 hb3)
  clear ho ho2 hb2 hb3 x2
  unfold tagV strV
  rw [HNB.out]
  go_wp2_with fail
  refine bodyPost_ret (v := .tuple #[.agg #[.int .i64 (T.kind : Int), .int .i64 (T.size : Int), .string NB, .slice Av nv cv, .bool T.single, .bool T.closed], .bool true]) ?_ rfl ?_
  ·simp [results, Tryz.results98, go_sem, s0, s1, s2, s3, s4, s5]
  ·refine HH.out.2.2.2.1 _ _ ?_ ?_
   ·exact ownsRow_base (((((((HF.out.1.set (by omega) 0 _).set (by omega) 1 _).set (by omega) 2 _).set (by omega) 3 _).set (by omega) 4 _).set (by omega) 5 _)) (by omega)
   ·exact ((((((HF.out.2.setc (Nat.le_refl _) 0 _).setc (Nat.le_refl _) 1 _).setc (Nat.le_refl _) 2 _).setc (Nat.le_refl _) 3 _).setc (Nat.le_refl _) 4 _).setc (Nat.le_refl _) 5 _)
 | en hb0 hb hr hn =>
  have C := RT 1 2 hn
  rw [tagT_at, hdl] at C
  have hok := hsome _ hr
  rw [hdl] at hok
  rw [hb0] at CL
  rw [hb] at CE
  obtain ⟨T, hTT⟩ : ∃ T, refGo (N - k) 1 rs0 (l.drop 2) = T := ⟨_, rfl⟩
  rw [hTT] at C hok
  obtain ⟨NB, hNB⟩ : ∃ S : ByteArray, ⟨(u8s T.name).toArray⟩ = S := ⟨_, rfl⟩
  unfold tagV strV at hok
  rw [hNB] at hok
  have HNB := Lib.hid hNB
  have HH := Lib.hid (And.intro CL (And.intro CE (And.intro C (And.intro hok (And.intro b1 x1)))))
  clear CL CE C hok b1 x1 RT hsome hnone hb hr hn hTT hNB hY1 hm1 hdl hll hN
  go_enter Tryz.func98, Tryz.ntmps98
  go_wp2_with fail
  refine HH.out.1.mono ?_
  rintro r w1 ⟨rfl, e1⟩
  obtain rfl := e1.symm
  go_wp2_with fail
  refine HH.out.2.1.mono ?_
  rintro r w1 ⟨rfl, e2⟩
  obtain rfl := e2.symm
  go_wp2_with fail
  refine HH.out.2.2.1.mono ?_
  rintro r w2 ⟨v, rfl, ho, hb2⟩
  obtain ⟨Av, nv, cv, rfl⟩ := ho.slice
  have x2 : Cells w2 w.heap.size 142 #[.int .i64 0, .int .i64 0, .string ⟨#[]⟩, .slice none 0 0, .bool false, .bool false] := (hb2.block _ hz1).trans HH.out.2.2.2.2.2
  have s0 := x2.cell 0
  have t0 := x2.froz 0
  have s1 := x2.cell 1
  have t1 := x2.froz 1
  have s2 := x2.cell 2
  have t2 := x2.froz 2
  have s3 := x2.cell 3
  have t3 := x2.froz 3
  have s4 := x2.cell 4
  have t4 := x2.froz 4
  have s5 := x2.cell 5
  have t5 := x2.froz 5
  simp at s0 s1 s2 s3 s4 s5
  have ho2 : OwnA w2 (w.heap.size + 1) T.attrs (.slice Av nv cv) := by
   rw [World.size_alloc] at ho
   exact ho
  have hb3 : Below w.heap.size w w2 := HH.out.2.2.2.2.1.trans (hb2.mono (Nat.le_of_lt hz1))
  have HF := Lib.hid (And.intro ho2 hb3)
  clear ho ho2 hb2 hb3 x2
  unfold tagV strV
  rw [HNB.out]
  go_wp2_with fail
  refine bodyPost_ret (v := .tuple #[.agg #[.int .i64 (T.kind : Int), .int .i64 (T.size : Int), .string NB, .slice Av nv cv, .bool T.single, .bool T.closed], .bool true]) ?_ rfl ?_
  ·simp [results, Tryz.results98, go_sem, s0, s1, s2, s3, s4, s5]
  ·refine HH.out.2.2.2.1 _ _ ?_ ?_
   ·exact ownsRow_base (((((((HF.out.1.set (by omega) 0 _).set (by omega) 1 _).set (by omega) 2 _).set (by omega) 3 _).set (by omega) 4 _).set (by omega) 5 _)) (by omega)
   ·exact ((((((HF.out.2.setc (Nat.le_refl _) 0 _).setc (Nat.le_refl _) 1 _).setc (Nat.le_refl _) 2 _).setc (Nat.le_refl _) 3 _).setc (Nat.le_refl _) 4 _).setc (Nat.le_refl _) 5 _)
 | co hb0 hb2 hb hr hn =>
  rw [hb0] at CL
  rw [hb2] at CE
  have hok := hsome _ hr
  have v1 : (convert 22 22 (.slice (some ⟨(w.alloc (.cells #[.int .i64 0, .int .i64 0, .string ⟨#[]⟩, .slice none 0 0, .bool false, .bool false] 142)).heap.size, 0, none⟩) 4 4)).run Tryz.prog ((w.alloc (.cells #[.int .i64 0, .int .i64 0, .string ⟨#[]⟩, .slice none 0 0, .bool false, .bool false] 142)).alloc (.cells #[.int .u8 60, .int .u8 33, .int .u8 45, .int .u8 45] 5)) = .ok (.slice (some ⟨(w.alloc (.cells #[.int .i64 0, .int .i64 0, .string ⟨#[]⟩, .slice none 0 0, .bool false, .bool false] 142)).heap.size, 0, none⟩) 4 4) ((w.alloc (.cells #[.int .i64 0, .int .i64 0, .string ⟨#[]⟩, .slice none 0 0, .bool false, .bool false] 142)).alloc (.cells #[.int .u8 60, .int .u8 33, .int .u8 45, .int .u8 45] 5 (4, 5))) := Lib.run_convert_bytes_const _ 22 5 _ 4 4 Tryz.underlying22 Tryz.underlying5
  obtain ⟨W2, hW2⟩ : ∃ W, (w.alloc (.cells #[.int .i64 0, .int .i64 0, .string ⟨#[]⟩, .slice none 0 0, .bool false, .bool false] 142)).alloc (.cells #[.int .u8 60, .int .u8 33, .int .u8 45, .int .u8 45] 5 (4, 5)) = W := ⟨_, rfl⟩
  rw [hW2] at v1
  have b2 : Below (w.alloc (.cells #[.int .i64 0, .int .i64 0, .string ⟨#[]⟩, .slice none 0 0, .bool false, .bool false] 142)).heap.size (w.alloc (.cells #[.int .i64 0, .int .i64 0, .string ⟨#[]⟩, .slice none 0 0, .bool false, .bool false] 142)) W2 := by rw [← hW2]; exact below_new _ _
  have z2 : BY W2 W2.heap.size [60, 33, 45, 45] (some ⟨(w.alloc (.cells #[.int .i64 0, .int .i64 0, .string ⟨#[]⟩, .slice none 0 0, .bool false, .bool false] 142)).heap.size, 0, none⟩) 4 := by
   refine ⟨Nat.le_refl _, by unfold maxLen; omega, (fun e => nomatch e), (by decide), fun _ => ⟨_, 0, rfl, by rw [← hW2, World.size_alloc _ (.cells #[.int .u8 60, .int .u8 33, .int .u8 45, .int .u8 45] 5 (4, 5))]; exact Nat.lt_succ_self _, fun i y hy => ?_⟩⟩
   rw [← hW2, Nat.zero_add]
   refine (Cells'.cell ⟨_, heap_alloc_new _ _⟩ i).trans ?_
   have : i < 4 := (List.getElem?_eq_some_iff.1 hy).1
   rcases (show i = 0 ∨ i = 1 ∨ i = 2 ∨ i = 3 by omega) with rfl | rfl | rfl | rfl <;> (simp at hy; subst hy; rfl)
  have CP := hasPre_any W2 l [60, 33, 45, 45] _ _ _ _ _ _ (hY1.on b2) z2
  rw [hb, hdl] at CP
  rw [World.size_alloc] at v1 CP
  have x2 : Cells W2 w.heap.size 142 #[.int .i64 0, .int .i64 0, .string ⟨#[]⟩, .slice none 0 0, .bool false, .bool false] := x1.on b2
  have b12 : Below w.heap.size w W2 := b1.trans (b2.mono (Nat.le_of_lt hz1))
  have C := fun hm2 hy2 => readToC_any b (o + k) (cap - k) l W2 hm2 hy2 hn hll
  have C := C (hm1.on hm1.pos b2) (hY1.on b2)
  rw [hdl] at C
  rw [hdl] at hok
  obtain ⟨T, hTT⟩ : ∃ T, upGo (N - k) 2 [45, 45, 62] (l.drop 4) = T := ⟨_, rfl⟩
  have hTn : T.name = [] ∧ T.attrs = [] ∧ T.single = false := by rw [← hTT]; exact upGo_plain _ _ _ _
  rw [hTT] at C hok
  have hok2 : ∀ w', Below w.heap.size w w' → Q (.returned (.tuple #[.agg #[.int .i64 (T.kind : Int), .int .i64 (T.size : Int), .string ⟨#[]⟩, .slice none 0 0, .bool false, .bool T.closed], .bool true])) w' := fun w' h => by
   have h1 := hok (.slice none 0 0) w' (by rw [hTn.2.1]; exact ownA_nil _ _) h
   unfold tagV at h1
   rw [hTn.1, hTn.2.2] at h1
   exact h1
  have HU := Lib.hid (And.intro hTn hok2)
  have HH := Lib.hid (And.intro CL (And.intro CE (And.intro CP (And.intro C (And.intro b12 (And.intro x2 trivial))))))
  clear CL CE CP C hok hok2 b1 x1 b2 b12 x2 z2 RT hsome hnone hr hn hTT hTn hY1 hm1 hdl hll hN hb 
  go_enter Tryz.func98, Tryz.ntmps98
  go_wp2_with fail
  refine HH.out.1.mono ?_
  rintro r w1 ⟨rfl, e1⟩
  obtain rfl := e1.symm
  go_wp2_with fail
  refine HH.out.2.1.mono ?_
  rintro r w1 ⟨rfl, e2⟩
  obtain rfl := e2.symm
  go_wp2_with fail
  refine HH.out.2.2.1.mono ?_
  rintro r w3 ⟨rfl, e3⟩
  obtain rfl := e3.symm
  clear v1 hW2
  go_wp2_with fail
  refine HH.out.2.2.2.1.mono ?_
  rintro r w3 ⟨rfl, hb3⟩
  have x3 := HH.out.2.2.2.2.2.1.on hb3
  have b3 := HH.out.2.2.2.2.1.trans (hb3.mono HH.out.2.2.2.2.1.size)
  clear hb3
  have s0 := x3.cell 0
  have t0 := x3.froz 0
  have s1 := x3.cell 1
  have t1 := x3.froz 1
  have s2 := x3.cell 2
  have t2 := x3.froz 2
  have s3 := x3.cell 3
  have t3 := x3.froz 3
  have s4 := x3.cell 4
  have t4 := x3.froz 4
  have s5 := x3.cell 5
  have t5 := x3.froz 5
  simp at s0 s1 s2 s3 s4 s5
  have HF := Lib.hid b3
  clear x3 b3
  go_wp2_with fail
  refine bodyPost_ret (v := .tuple #[.agg #[.int .i64 (T.kind : Int), .int .i64 (T.size : Int), .string ⟨#[]⟩, .slice none 0 0, .bool false, .bool T.closed], .bool true]) ?_ rfl ?_
  ·simp [results, Tryz.results98, go_sem, s0, s1, s2, s3, s4, s5]
  ·refine HU.out.2 _ ?_
   exact ((((((HF.out.setc (Nat.le_refl _) 0 _).setc (Nat.le_refl _) 1 _).setc (Nat.le_refl _) 2 _).setc (Nat.le_refl _) 3 _).setc (Nat.le_refl _) 4 _).setc (Nat.le_refl _) 5 _)
 | de hb0 hb2 hb3 hb hr hn =>
  rw [hb0] at CL
  rw [hb2] at CE
  have hok := hsome _ hr
  have v1 : (convert 22 22 (.slice (some ⟨(w.alloc (.cells #[.int .i64 0, .int .i64 0, .string ⟨#[]⟩, .slice none 0 0, .bool false, .bool false] 142)).heap.size, 0, none⟩) 4 4)).run Tryz.prog ((w.alloc (.cells #[.int .i64 0, .int .i64 0, .string ⟨#[]⟩, .slice none 0 0, .bool false, .bool false] 142)).alloc (.cells #[.int .u8 60, .int .u8 33, .int .u8 45, .int .u8 45] 5)) = .ok (.slice (some ⟨(w.alloc (.cells #[.int .i64 0, .int .i64 0, .string ⟨#[]⟩, .slice none 0 0, .bool false, .bool false] 142)).heap.size, 0, none⟩) 4 4) ((w.alloc (.cells #[.int .i64 0, .int .i64 0, .string ⟨#[]⟩, .slice none 0 0, .bool false, .bool false] 142)).alloc (.cells #[.int .u8 60, .int .u8 33, .int .u8 45, .int .u8 45] 5 (4, 5))) := Lib.run_convert_bytes_const _ 22 5 _ 4 4 Tryz.underlying22 Tryz.underlying5
  obtain ⟨W2, hW2⟩ : ∃ W, (w.alloc (.cells #[.int .i64 0, .int .i64 0, .string ⟨#[]⟩, .slice none 0 0, .bool false, .bool false] 142)).alloc (.cells #[.int .u8 60, .int .u8 33, .int .u8 45, .int .u8 45] 5 (4, 5)) = W := ⟨_, rfl⟩
  rw [hW2] at v1
  have b2 : Below (w.alloc (.cells #[.int .i64 0, .int .i64 0, .string ⟨#[]⟩, .slice none 0 0, .bool false, .bool false] 142)).heap.size (w.alloc (.cells #[.int .i64 0, .int .i64 0, .string ⟨#[]⟩, .slice none 0 0, .bool false, .bool false] 142)) W2 := by rw [← hW2]; exact below_new _ _
  have z2 : BY W2 W2.heap.size [60, 33, 45, 45] (some ⟨(w.alloc (.cells #[.int .i64 0, .int .i64 0, .string ⟨#[]⟩, .slice none 0 0, .bool false, .bool false] 142)).heap.size, 0, none⟩) 4 := by
   refine ⟨Nat.le_refl _, by unfold maxLen; omega, (fun e => nomatch e), (by decide), fun _ => ⟨_, 0, rfl, by rw [← hW2, World.size_alloc _ (.cells #[.int .u8 60, .int .u8 33, .int .u8 45, .int .u8 45] 5 (4, 5))]; exact Nat.lt_succ_self _, fun i y hy => ?_⟩⟩
   rw [← hW2, Nat.zero_add]
   refine (Cells'.cell ⟨_, heap_alloc_new _ _⟩ i).trans ?_
   have : i < 4 := (List.getElem?_eq_some_iff.1 hy).1
   rcases (show i = 0 ∨ i = 1 ∨ i = 2 ∨ i = 3 by omega) with rfl | rfl | rfl | rfl <;> (simp at hy; subst hy; rfl)
  have CP := hasPre_any W2 l [60, 33, 45, 45] _ _ _ _ _ _ (hY1.on b2) z2
  rw [hb3, hdl] at CP
  rw [World.size_alloc] at v1 CP
  have x2 : Cells W2 w.heap.size 142 #[.int .i64 0, .int .i64 0, .string ⟨#[]⟩, .slice none 0 0, .bool false, .bool false] := x1.on b2
  have b12 : Below w.heap.size w W2 := b1.trans (b2.mono (Nat.le_of_lt hz1))
  have CD := fun W gs (hs : Cells W gs 9 #[strV [33, 63, 47]]) (hb : Below W2.heap.size W2 W) => beginsD_any b (o + k) (cap - k) l W ((hY1.on b2).on hb) gs hs
  have C := fun W (hb : Below W2.heap.size W2 W) => readToD_any b (o + k) (cap - k) l W ((hm1.on hm1.pos b2).on (hm1.on hm1.pos b2).pos hb) ((hY1.on b2).on hb) hn hll
  rw [hdl] at C hok
  rw [hb, hdl] at CD
  obtain ⟨T, hTT⟩ : ∃ T, upGo (N - k) 3 [62] (l.drop 1) = T := ⟨_, rfl⟩
  have hTn : T.name = [] ∧ T.attrs = [] ∧ T.single = false := by rw [← hTT]; exact upGo_plain _ _ _ _
  rw [hTT] at C hok
  have hok2 : ∀ w', Below w.heap.size w w' → Q (.returned (.tuple #[.agg #[.int .i64 (T.kind : Int), .int .i64 (T.size : Int), .string ⟨#[]⟩, .slice none 0 0, .bool false, .bool T.closed], .bool true])) w' := fun w' h => by
   have h1 := hok (.slice none 0 0) w' (by rw [hTn.2.1]; exact ownA_nil _ _) h
   unfold tagV at h1
   rw [hTn.1, hTn.2.2] at h1
   exact h1
  have HU := Lib.hid (And.intro hTn hok2)
  have HH := Lib.hid (And.intro CL (And.intro CE (And.intro CP (And.intro C (And.intro b12 (And.intro x2 CD))))))
  clear CL CE CP C hok hok2 b1 x1 b2 b12 x2 z2 RT hsome hnone hr hn hTT hTn hY1 hm1 hdl hll hN hb CD hb0 hb2 hb3
  go_enter Tryz.func98, Tryz.ntmps98
  go_wp2_with fail
  refine HH.out.1.mono ?_
  rintro r w1 ⟨rfl, e1⟩
  obtain rfl := e1.symm
  go_wp2_with fail
  refine HH.out.2.1.mono ?_
  rintro r w1 ⟨rfl, e2⟩
  obtain rfl := e2.symm
  go_wp2_with fail
  refine HH.out.2.2.1.mono ?_
  rintro r w3 ⟨rfl, e3⟩
  obtain rfl := e3.symm
  clear v1 hW2
  go_wp2_with fail
  refine (mkO_any ⟨#[33, 63, 47]⟩ _).mono ?_
  rintro r w3 ⟨gs, rfl, hs3, hb3⟩
  have x3 := HH.out.2.2.2.2.2.1.on hb3
  have b3 := HH.out.2.2.2.2.1.trans (hb3.mono HH.out.2.2.2.2.1.size)
  have H3 := Lib.hid (And.intro hs3 (And.intro hb3 (And.intro x3 b3)))
  clear hs3 hb3 x3 b3
  go_wp2_with fail
  refine (HH.out.2.2.2.2.2.2 w3 gs H3.out.1 H3.out.2.1).mono ?_
  rintro r w4 ⟨rfl, hb4⟩
  have H4 := Lib.hid (And.intro (H3.out.2.1.trans (hb4.mono H3.out.2.1.size)) (And.intro (H3.out.2.2.1.on hb4) (H3.out.2.2.2.trans (hb4.mono H3.out.2.2.2.size))))
  clear hb4
  go_wp2_with fail
  refine (HH.out.2.2.2.1 w4 H4.out.1).mono ?_
  rintro r w5 ⟨rfl, hb5⟩
  have x3 := H4.out.2.1.on hb5
  have b3 := H4.out.2.2.trans (hb5.mono H4.out.2.2.size)
  clear hb5
  have s0 := x3.cell 0
  have t0 := x3.froz 0
  have s1 := x3.cell 1
  have t1 := x3.froz 1
  have s2 := x3.cell 2
  have t2 := x3.froz 2
  have s3 := x3.cell 3
  have t3 := x3.froz 3
  have s4 := x3.cell 4
  have t4 := x3.froz 4
  have s5 := x3.cell 5
  have t5 := x3.froz 5
  simp at s0 s1 s2 s3 s4 s5
  have HF := Lib.hid b3
  clear x3 b3
  go_wp2_with fail
  refine bodyPost_ret (v := .tuple #[.agg #[.int .i64 (T.kind : Int), .int .i64 (T.size : Int), .string ⟨#[]⟩, .slice none 0 0, .bool false, .bool T.closed], .bool true]) ?_ rfl ?_
  ·simp [results, Tryz.results98, go_sem, s0, s1, s2, s3, s4, s5]
  ·refine HU.out.2 _ ?_
   exact ((((((HF.out.setc (Nat.le_refl _) 0 _).setc (Nat.le_refl _) 1 _).setc (Nat.le_refl _) 2 _).setc (Nat.le_refl _) 3 _).setc (Nat.le_refl _) 4 _).setc (Nat.le_refl _) 5 _)
 | no hb0 hb2 hb3 hb hr =>
  rw [hb0] at CL
  rw [hb2] at CE
  have hok := hnone hr
  have v1 : (convert 22 22 (.slice (some ⟨(w.alloc (.cells #[.int .i64 0, .int .i64 0, .string ⟨#[]⟩, .slice none 0 0, .bool false, .bool false] 142)).heap.size, 0, none⟩) 4 4)).run Tryz.prog ((w.alloc (.cells #[.int .i64 0, .int .i64 0, .string ⟨#[]⟩, .slice none 0 0, .bool false, .bool false] 142)).alloc (.cells #[.int .u8 60, .int .u8 33, .int .u8 45, .int .u8 45] 5)) = .ok (.slice (some ⟨(w.alloc (.cells #[.int .i64 0, .int .i64 0, .string ⟨#[]⟩, .slice none 0 0, .bool false, .bool false] 142)).heap.size, 0, none⟩) 4 4) ((w.alloc (.cells #[.int .i64 0, .int .i64 0, .string ⟨#[]⟩, .slice none 0 0, .bool false, .bool false] 142)).alloc (.cells #[.int .u8 60, .int .u8 33, .int .u8 45, .int .u8 45] 5 (4, 5))) := Lib.run_convert_bytes_const _ 22 5 _ 4 4 Tryz.underlying22 Tryz.underlying5
  obtain ⟨W2, hW2⟩ : ∃ W, (w.alloc (.cells #[.int .i64 0, .int .i64 0, .string ⟨#[]⟩, .slice none 0 0, .bool false, .bool false] 142)).alloc (.cells #[.int .u8 60, .int .u8 33, .int .u8 45, .int .u8 45] 5 (4, 5)) = W := ⟨_, rfl⟩
  rw [hW2] at v1
  have b2 : Below (w.alloc (.cells #[.int .i64 0, .int .i64 0, .string ⟨#[]⟩, .slice none 0 0, .bool false, .bool false] 142)).heap.size (w.alloc (.cells #[.int .i64 0, .int .i64 0, .string ⟨#[]⟩, .slice none 0 0, .bool false, .bool false] 142)) W2 := by rw [← hW2]; exact below_new _ _
  have z2 : BY W2 W2.heap.size [60, 33, 45, 45] (some ⟨(w.alloc (.cells #[.int .i64 0, .int .i64 0, .string ⟨#[]⟩, .slice none 0 0, .bool false, .bool false] 142)).heap.size, 0, none⟩) 4 := by
   refine ⟨Nat.le_refl _, by unfold maxLen; omega, (fun e => nomatch e), (by decide), fun _ => ⟨_, 0, rfl, by rw [← hW2, World.size_alloc _ (.cells #[.int .u8 60, .int .u8 33, .int .u8 45, .int .u8 45] 5 (4, 5))]; exact Nat.lt_succ_self _, fun i y hy => ?_⟩⟩
   rw [← hW2, Nat.zero_add]
   refine (Cells'.cell ⟨_, heap_alloc_new _ _⟩ i).trans ?_
   have : i < 4 := (List.getElem?_eq_some_iff.1 hy).1
   rcases (show i = 0 ∨ i = 1 ∨ i = 2 ∨ i = 3 by omega) with rfl | rfl | rfl | rfl <;> (simp at hy; subst hy; rfl)
  have CP := hasPre_any W2 l [60, 33, 45, 45] _ _ _ _ _ _ (hY1.on b2) z2
  rw [hb3, hdl] at CP
  rw [World.size_alloc] at v1 CP
  have x2 : Cells W2 w.heap.size 142 #[.int .i64 0, .int .i64 0, .string ⟨#[]⟩, .slice none 0 0, .bool false, .bool false] := x1.on b2
  have b12 : Below w.heap.size w W2 := b1.trans (b2.mono (Nat.le_of_lt hz1))
  have CD := fun W gs (hs : Cells W gs 9 #[strV [33, 63, 47]]) (hb : Below W2.heap.size W2 W) => beginsD_any b (o + k) (cap - k) l W ((hY1.on b2).on hb) gs hs
  rw [hb, hdl] at CD
  have HU := Lib.hid hok
  have HH := Lib.hid (And.intro CL (And.intro CE (And.intro CP (And.intro CD (And.intro b12 x2)))))
  clear CL CE CP CD hok b1 x1 b2 b12 x2 z2 RT hsome hnone hr hY1 hm1 hdl hll hN hb hb0 hb2 hb3
  go_enter Tryz.func98, Tryz.ntmps98
  go_wp2_with fail
  refine HH.out.1.mono ?_
  rintro r w1 ⟨rfl, e1⟩
  obtain rfl := e1.symm
  go_wp2_with fail
  refine HH.out.2.1.mono ?_
  rintro r w1 ⟨rfl, e2⟩
  obtain rfl := e2.symm
  go_wp2_with fail
  refine HH.out.2.2.1.mono ?_
  rintro r w3 ⟨rfl, e3⟩
  obtain rfl := e3.symm
  clear v1 hW2
  go_wp2_with fail
  refine (mkO_any ⟨#[33, 63, 47]⟩ _).mono ?_
  rintro r w3 ⟨gs, rfl, hs3, hb3⟩
  have x3 := HH.out.2.2.2.2.2.on hb3
  have b3 := HH.out.2.2.2.2.1.trans (hb3.mono HH.out.2.2.2.2.1.size)
  have H3 := Lib.hid (And.intro hs3 (And.intro hb3 (And.intro x3 b3)))
  clear hs3 hb3 x3 b3
  go_wp2_with fail
  refine (HH.out.2.2.2.1 w3 gs H3.out.1 H3.out.2.1).mono ?_
  rintro r w4 ⟨rfl, hb4⟩
  have x3 := H3.out.2.2.1.on hb4
  have b3 := H3.out.2.2.2.trans (hb4.mono H3.out.2.2.2.size)
  clear hb4
  have s0 := x3.cell 0
  have t0 := x3.froz 0
  have s1 := x3.cell 1
  have t1 := x3.froz 1
  have s2 := x3.cell 2
  have t2 := x3.froz 2
  have s3 := x3.cell 3
  have t3 := x3.froz 3
  have s4 := x3.cell 4
  have t4 := x3.froz 4
  have s5 := x3.cell 5
  have t5 := x3.froz 5
  simp at s0 s1 s2 s3 s4 s5
  have HF := Lib.hid b3
  clear x3 b3
  go_wp2_with fail
  refine bodyPost_ret (v := .tuple #[.agg #[.int .i64 0, .int .i64 0, .string ⟨#[]⟩, .slice none 0 0, .bool false, .bool false], .bool false]) ?_ rfl ?_
  ·simp [results, Tryz.results98, go_sem, s0, s1, s2, s3, s4, s5]
  ·exact HU.out _ ((((((HF.out.setc (Nat.le_refl _) 0 _).setc (Nat.le_refl _) 1 _).setc (Nat.le_refl _) 2 _).setc (Nat.le_refl _) 3 _).setc (Nat.le_refl _) 4 _).setc (Nat.le_refl _) 5 _)
theorem ref_cons (N k : Nat) (s : RS) (c : Nat) (t : List Nat) : (∃ u, refStep s c = (u, true) ∧ refGo N k s (c :: t) = ⟨k, N - t.length, u.tn, u.«atl», u.slash, true⟩) ∨ (∃ u, refStep s c = (u, false) ∧ refGo N k s (c :: t) = refGo N k u t) := by
 cases h : refStep s c with
 | mk u e =>
  cases e with
  | true => exact .inl ⟨u, rfl, ref_end h⟩
  | false => exact .inr ⟨u, rfl, ref_on h⟩
theorem ref_size_ge (N k : Nat) : ∀ (l : List Nat) (s : RS), N - l.length ≤ (refGo N k s l).size
 | [], s => by show N - 0 ≤ N; omega
 | c :: t, s => by
  rcases ref_cons N k s c t with ⟨u, _, h⟩ | ⟨u, _, h⟩
  ·rw [h]; simp; omega
  ·rw [h]
   have := ref_size_ge N k t u
   simp
   omega
theorem ref_closed (N k : Nat) (more : List Nat) : ∀ (l : List Nat) (s : RS), (refGo N k s l).closed = true → refGo (N + more.length) k s (l ++ more) = refGo N k s l ∧ (refGo N k s l).size ≤ N ∧ N - l.length + (if N < l.length then 0 else 1) ≤ (refGo N k s l).size
 | [], s, h => by cases h
 | c :: t, s, h => by
  rcases ref_cons N k s c t with ⟨u, hu, e⟩ | ⟨u, hu, e⟩
  ·rw [e]
   refine ⟨?_, by simp, by simp; split <;> omega⟩
   rw [List.cons_append, ref_end hu]
   congr 1
   simp
   omega
  ·rw [e] at h ⊢
   obtain ⟨h1, h2, h3⟩ := ref_closed N k more t u h
   refine ⟨?_, h2, ?_⟩
   ·rw [List.cons_append, ref_on hu]; exact h1
   ·simp
    split at h3 <;> split <;> omega
theorem ref_open (N k : Nat) (more : List Nat) : ∀ (l : List Nat) (s : RS), (refGo N k s l).closed = false → (refGo N k s l).size = N ∧ (refGo N k s l).single = false ∧ N ≤ (refGo (N + more.length) k s (l ++ more)).size
 | [], s, h => by
  refine ⟨rfl, rfl, ?_⟩
  have := ref_size_ge (N + more.length) k more s
  simp at this ⊢
  omega
 | c :: t, s, h => by
  rcases ref_cons N k s c t with ⟨u, hu, e⟩ | ⟨u, hu, e⟩
  ·rw [e] at h; cases h
  ·rw [e] at h ⊢
   rw [List.cons_append, ref_on hu]
   exact ref_open N k more t u h
theorem up_size_ge (N k : Nat) (e : List Nat) : ∀ (l : List Nat), N - l.length ≤ (upGo N k e l).size
 | [] => by show N - 0 ≤ N; omega
 | c :: t => by
  rw [upGo]
  split
  ·simp
  ·have := up_size_ge N k e t
   simp
   omega
theorem up_len (N k : Nat) (e : List Nat) : ∀ (l : List Nat), (upGo N k e l).closed = true → e.length ≤ l.length
 | [], h => by cases h
 | c :: t, h => by
  rw [upGo] at h
  split at h
  ·rename_i hp
   exact (List.isPrefixOf_iff_prefix.1 hp).length_le
  ·have := up_len N k e t h
   simp
   omega
theorem prefix_more {e l more : List Nat} (h : e.length ≤ l.length) : e.isPrefixOf (l ++ more) = e.isPrefixOf l := by
 rw [Bool.eq_iff_iff, List.isPrefixOf_iff_prefix, List.isPrefixOf_iff_prefix]
 constructor
 ·intro hp
  exact List.prefix_of_prefix_length_le hp (List.prefix_append l more) h
 ·intro hp
  exact hp.trans (List.prefix_append l more)
theorem up_closed (N k : Nat) (e more : List Nat) : ∀ (l : List Nat), l.length ≤ N → (upGo N k e l).closed = true → upGo (N + more.length) k e (l ++ more) = upGo N k e l ∧ (upGo N k e l).size ≤ N ∧ N - l.length + e.length ≤ (upGo N k e l).size
 | [], _, h => by cases h
 | c :: t, hN, h => by
  have hl := up_len N k e (c :: t) h
  have hp := prefix_more (more := more) hl
  simp at hN hl
  rw [upGo] at h
  rw [List.cons_append] at hp ⊢
  rw [upGo, upGo, hp]
  by_cases hh : e.isPrefixOf (c :: t) = true
  ·rw [if_pos hh, if_pos hh]
   refine ⟨?_, by simp; omega, by simp⟩
   congr 1
   simp
   omega
  ·rw [if_neg hh] at h ⊢
   rw [if_neg hh]
   obtain ⟨h1, h2, h3⟩ := up_closed N k e more t (by omega) h
   exact ⟨h1, h2, by simp; omega⟩
theorem up_open (N k : Nat) (e more : List Nat) : ∀ (l : List Nat), l.length ≤ N → (upGo N k e l).closed = false → (upGo N k e l).size = N ∧ N ≤ (upGo (N + more.length) k e (l ++ more)).size
 | [], _, _ => by
  refine ⟨rfl, ?_⟩
  have := up_size_ge (N + more.length) k e more
  simp at this ⊢
  omega
 | c :: t, hN, h => by
  simp at hN
  rw [upGo] at h ⊢
  by_cases hh : e.isPrefixOf (c :: t) = true
  ·rw [if_pos hh] at h; cases h
  ·rw [if_neg hh] at h ⊢
   obtain ⟨h1, h2⟩ := up_open N k e more t (by omega) h
   refine ⟨h1, ?_⟩
   rw [List.cons_append, upGo]
   split
   ·rename_i hp
    have : ¬ e.length ≤ (c :: t).length := fun hle => hh (by rw [← prefix_more (more := more) hle]; exact hp)
    simp at this ⊢
    omega
   ·exact h2
def GrowOk (n : Nat) (O U : Option TG) : Prop :=
 (O = none ∧ (n < 2 ∨ U = none)) ∨ ∃ T V, O = some T ∧ U = some V ∧ T.size ≤ n ∧ 2 ≤ T.size ∧
  ((T.closed = true ∧ V = T) ∨ (T.closed = false ∧ T.size = n ∧ n ≤ V.size ∧ T.single = false))
theorem grow_ref (N k : Nat) (more l : List Nat) (s : RS) (hN : l.length + 1 ≤ N) (h2 : 2 ≤ N) : GrowOk N (some (refGo N k s l)) (some (refGo (N + more.length) k s (l ++ more))) := by
 refine .inr ⟨_, _, rfl, rfl, ?_⟩
 cases h : (refGo N k s l).closed with
 | true =>
  obtain ⟨h1, h3, h4⟩ := ref_closed N k more l s h
  rw [if_neg (by omega)] at h4
  exact ⟨h3, by omega, .inl ⟨rfl, h1⟩⟩
 | false =>
  obtain ⟨h1, h3, h4⟩ := ref_open N k more l s h
  exact ⟨by omega, by omega, .inr ⟨rfl, h1, h4, h3⟩⟩
theorem grow_up (N k : Nat) (e more l : List Nat) (hN : l.length + 2 ≤ N) (he : 1 ≤ e.length) : GrowOk N (some (upGo N k e l)) (some (upGo (N + more.length) k e (l ++ more))) := by
 refine .inr ⟨_, _, rfl, rfl, ?_⟩
 have hs := (upGo_plain N k e l).2.2
 cases h : (upGo N k e l).closed with
 | true =>
  obtain ⟨h1, h3, h4⟩ := up_closed N k e more l (by omega) h
  exact ⟨h3, by omega, .inl ⟨rfl, h1⟩⟩
 | false =>
  obtain ⟨h1, h4⟩ := up_open N k e more l (by omega) h
  exact ⟨by omega, by omega, .inr ⟨rfl, h1, h4, hs⟩⟩
theorem grow_any (N k _M : Nat) (e l : List Nat) (V : TG) (hN : l.length + 2 ≤ N) (hc : (upGo N k e l).closed = false) (hV : N ≤ V.size) : GrowOk N (some (upGo N k e l)) (some V) := by
 obtain ⟨h1, _⟩ := up_open N k e [] l (by omega) hc
 exact .inr ⟨_, _, rfl, rfl, by omega, by omega, .inr ⟨hc, h1, hV, (upGo_plain N k e l).2.2⟩⟩
theorem grow_rd (b more : List Nat) : GrowOk b.length (rdT b) (rdT (b ++ more)) := by
 match b with
 | [] => exact .inl ⟨rfl, .inl (by simp)⟩
 | [d] => exact .inl ⟨rfl, .inl (by simp)⟩
 | d :: c :: t =>
  have hl : (d :: c :: t).length = t.length + 2 := rfl
  rw [hl]
  have hm : (t ++ more).length + 2 = t.length + 2 + more.length := by simp; omega
  by_cases hd : d = 60
  case neg => exact .inl ⟨by simp [rdT, hd], .inr (by simp [rdT, hd])⟩
  subst hd
  by_cases hc : ltrB c = true
  ·have e1 : rdT (60 :: c :: t) = some (refGo (t.length + 2) 0 rs0 (c :: t)) := by simp [rdT, hc]
   have e2 : rdT (60 :: c :: t ++ more) = some (refGo (t.length + 2 + more.length) 0 rs0 (c :: t ++ more)) := by
    show rdT (60 :: c :: (t ++ more)) = _
    simp only [rdT, hc, ne_eq, not_true_eq_false, if_false, if_true]
    rw [hm]
    rfl
   rw [e1, e2]
   exact grow_ref _ _ _ _ _ (by simp) (by omega)
  have hcf : ltrB c = false := by simpa using hc
  have R : ∀ u, rdT (60 :: c :: u) = if c = 47 ∧ (u.head?.map ltrB) = some true then some (refGo (u.length + 2) 1 rs0 u)
    else if c = 33 ∧ u.take 2 = [45, 45] then some (upGo (u.length + 2) 2 [45, 45, 62] (u.drop 2))
    else if c = 33 ∨ c = 63 ∨ c = 47 then some (upGo (u.length + 2) 3 [62] u) else none := fun u => by
   simp only [rdT, hcf, ne_eq, not_true_eq_false, if_false, Bool.false_eq_true]
  have Rm : rdT (60 :: c :: t ++ more) = _ := R (t ++ more)
  rw [Rm, R, hm]
  by_cases h1 : c = 47 ∧ (t.head?.map ltrB) = some true
  ·have h1' : c = 47 ∧ ((t ++ more).head?.map ltrB) = some true := ⟨h1.1, by
    cases t with
    | nil => simp at h1
    | cons a u => exact h1.2⟩
   rw [if_pos h1, if_pos h1']
   exact grow_ref _ _ _ _ _ (by omega) (by omega)
  rw [if_neg h1]
  by_cases h2 : c = 33 ∧ t.take 2 = [45, 45]
  ·have h1' : ¬ (c = 47 ∧ ((t ++ more).head?.map ltrB) = some true) := fun h => by omega
   have h2l : 2 ≤ t.length := by have := congrArg List.length h2.2; simp at this; omega
   have h2' : c = 33 ∧ (t ++ more).take 2 = [45, 45] := ⟨h2.1, by rw [List.take_append_of_le_length h2l]; exact h2.2⟩
   rw [if_pos h2, if_neg h1', if_pos h2', List.drop_append_of_le_length h2l]
   exact grow_up _ _ _ _ _ (by simp) (by simp)
  rw [if_neg h2]
  by_cases h3 : c = 33 ∨ c = 63 ∨ c = 47
  case neg =>
   rw [if_neg h3]
   refine .inl ⟨rfl, .inr ?_⟩
   rw [if_neg (fun h => h3 (.inr (.inr h.1))), if_neg (fun h => h3 (.inl h.1)), if_neg h3]
  rw [if_pos h3]
  by_cases h1' : c = 47 ∧ ((t ++ more).head?.map ltrB) = some true
  ·have ht : t = [] := by
    cases t with
    | nil => rfl
    | cons a u => exact absurd ⟨h1'.1, h1'.2⟩ h1
   subst ht
   rw [if_pos h1']
   refine grow_any _ _ 0 _ _ _ (by simp) rfl ?_
   have := ref_size_ge (0 + 2 + more.length) 1 more rs0
   simp at this ⊢
   omega
  rw [if_neg h1']
  by_cases h2' : c = 33 ∧ (t ++ more).take 2 = [45, 45]
  ·rw [if_pos h2']
   have hlt : t.length < 2 := by
    apply Nat.lt_of_not_le
    intro h
    rw [List.take_append_of_le_length h] at h2'
    exact h2 h2'
   have hge := up_size_ge (t.length + 2 + more.length) 2 [45, 45, 62] ((t ++ more).drop 2)
   have hlm : 2 ≤ (t ++ more).length := by have := congrArg List.length h2'.2; simp at this ⊢; omega
   refine grow_any _ _ 0 _ _ _ (by omega) ?_ ?_
   ·match t, hlt with
    | [], _ => rfl
    | [a], _ =>
     have : a = 45 := by
      have := congrArg List.head? h2'.2
      simp at this
      exact this
     subst this
     rfl
   ·simp at hge hlm ⊢
    omega
  rw [if_neg h2', if_pos h3]
  exact grow_up _ _ _ _ _ (by omega) (by simp)
end Go.Proofs.YtfafhbgkmlmmdaaGreatDoor.G
namespace Go.Proofs.YtfafhbgkmlmmdaaGreatDoor
open Go.RowKit Go.Shelf Go.Lib Go.Maps
theorem below_drewN {B : Nat} {a w : World} (h : Below B a w) (n : Nat) : Below B a (w.drewN n) := ⟨h.os, h.tape, h.output, h.size, h.block⟩
theorem ret_bool {a b : Bool} (h : a = b) : Ending.returned (.bool a) = .returned (.bool b) := by rw [h]
theorem add0 (g j : Nat) : (Addr.mk g 0 none).add j = ⟨g, j, none⟩ := by
 unfold Addr.add
 by_cases h : j = 0 <;> simp [h]
def Cells (W : World) (g t : Nat) (cs : Array Value) : Prop := W.heap[g]? = some (.cells cs t (0, 0))
theorem Cells.lt {W : World} {g t : Nat} {cs : Array Value} (h : Cells W g t cs) : g < W.heap.size := (Array.getElem?_eq_some_iff.1 h).1
theorem Cells.cell {W : World} {g t : Nat} {cs : Array Value} (h : Cells W g t cs) (i : Nat) : W.cell? ⟨g, i, none⟩ = cs[i]? := by
 simp [World.cell?, show W.heap[g]? = _ from h]
theorem own_block_lt {w : World} {base e size n : Nat} {v : Value} {xs : List Value} (h : w.ownsRow base e size v n xs) : ∀ k, v.ownBlock = some k → base ≤ k ∧ k < w.heap.size := by
 rcases h.2 with ⟨rfl, _⟩ | ⟨g, cap, cur, rfl, hb, hh, _⟩
 ·intro k e; simp [Value.ownBlock] at e
 ·intro k e
  obtain rfl : g = k := by simpa [Value.ownBlock] using e
  exact ⟨hb, (Array.getElem?_eq_some_iff.1 hh).1⟩
theorem grown_of_below {A B : World} (h : Below A.heap.size A B) : A.grownBy B none := ⟨h.os, h.tape, h.output, h.size, fun k hk _ => h.block k hk⟩
theorem ownsRow_below {w w' : World} {base e size n : Nat} {v : Value} {xs : List Value} (h : w.ownsRow base e size v n xs) (hb : Below w.heap.size w w') : w'.ownsRow base e size v n xs :=
 h.kept (grown_of_below hb) (by cases v.ownBlock <;> simp)
def i64 (n : Int) : Prop := -9223372036854775808 ≤ n ∧ n ≤ 9223372036854775807
theorem below_new (w : World) (o : Obj) : Below w.heap.size w (w.alloc o) := (Below.refl _ _).alloc (Nat.le_refl _) o
theorem cells_new (w : World) (cs : Array Value) (t : Nat) : Cells (w.alloc (.cells cs t)) w.heap.size t cs := World.alloc_heap_new w _
theorem Cells.froz {W : World} {g t : Nat} {cs : Array Value} (h : Cells W g t cs) (i : Nat) : W.frozen? ⟨g, i, none⟩ = false := by
 simp [World.frozen?, show W.heap[g]? = _ from h]
theorem Cells.set {W : World} {g t : Nat} {cs : Array Value} (h : Cells W g t cs) (i : Nat) (v : Value) : Cells (W.setCell ⟨g, i, none⟩ v) g t (cs.setIfInBounds i v) := by
 unfold Cells World.setCell
 simp only [Array.getElem?_modify, if_true]
 rw [show W.heap[g]? = _ from h]
 rfl
theorem cell_lt {w : World} {a : Addr} {v : Value} (h : w.cell? a = some v) : a.block < w.heap.size := by
 unfold World.cell? at h
 cases hb : w.heap[a.block]? with
 | none => simp [hb] at h
 | some x => exact (Array.getElem?_eq_some_iff.1 hb).1
structure IS (w : World) (B : Nat) (xs : List Int) (A : Option Addr) (cap : Nat) : Prop where
 l : xs.length ≤ cap
 m : cap ≤ maxLen
 i : ∀ x ∈ xs, i64 x
 r : xs ≠ [] → ∃ b o, A = some ⟨b, o, none⟩ ∧ b < B ∧ ∀ i x, xs[i]? = some x → w.cell? ⟨b, o + i, none⟩ = some (.int .i64 x)
theorem IS.below {w w' : World} {B : Nat} {xs : List Int} {A : Option Addr} {cap : Nat} (h : IS w B xs A cap) (hb : Below B w w') : IS w' B xs A cap :=
 ⟨h.l, h.m, h.i, fun hne => by
  obtain ⟨b, o, rfl, hl, hr⟩ := h.r hne
  exact ⟨b, o, rfl, hl, fun i x hx => (hb.cell (p := ⟨b, _, none⟩) hl).trans (hr i x hx)⟩⟩
theorem IS.mono {w : World} {B B' : Nat} {xs : List Int} {A : Option Addr} {cap : Nat} (h : IS w B xs A cap) (hB : B ≤ B') : IS w B' xs A cap :=
 ⟨h.l, h.m, h.i, fun hne => by
  obtain ⟨b, o, rfl, hl, hr⟩ := h.r hne
  exact ⟨b, o, rfl, by omega, hr⟩⟩
theorem IS.on {w w' : World} {xs : List Int} {A : Option Addr} {cap : Nat} (h : IS w w.heap.size xs A cap) (hb : Below w.heap.size w w') : IS w' w'.heap.size xs A cap := (h.below hb).mono hb.size
def intsC (l : List Int) : List Value := l.map fun x => Value.int .i64 x
def OwnI (w : World) (base : Nat) (l : List Int) (v : Value) : Prop := w.ownsRow base 3 1 v l.length (intsC l)
theorem OwnI.is {w : World} {base : Nat} {l : List Int} {v : Value} (h : OwnI w base l v) (hl : ∀ x ∈ l, i64 x) : ∃ A cap, v = .slice A l.length cap ∧ IS w w.heap.size l A cap ∧ (A = none → cap = 0) := by
 rcases h.2 with ⟨h1, h2⟩ | ⟨g, cap, cur, h1, h2, h3, h4, h5, h6, h7⟩
 ·have hn : l = [] := List.eq_nil_of_length_eq_zero h2
  subst hn
  exact ⟨none, 0, by rw [h1]; rfl, ⟨Nat.le_refl _, by unfold maxLen; omega, (fun x hx => absurd hx (by simp)), (fun hn => absurd rfl hn)⟩, fun _ => rfl⟩
 ·refine ⟨_, cap, h1, ⟨h4, h5, hl, fun _ => ⟨g, 0, rfl, (Array.getElem?_eq_some_iff.1 h3).1, fun i x hx => ?_⟩⟩, fun e => by cases e⟩
  have hc := World.ownsRow.cells h (g := g) (by rw [h1]; rfl) i (.int .i64 x) (by simp [intsC, hx])
  rw [add0] at hc
  rw [Nat.zero_add]; exact hc
theorem OwnI.below {w w' : World} {base : Nat} {l : List Int} {v : Value} (h : OwnI w base l v) (hb : Below w.heap.size w w') : OwnI w' base l v := ownsRow_below h hb
structure Fz (X : Nat → Prop) (w w' : World) : Prop where
 os : w'.os = w.os
 tape : w'.tape = w.tape
 output : w'.output = w.output
 size : w.heap.size ≤ w'.heap.size
 block : ∀ k, k < w.heap.size → ¬ X k → w'.heap[k]? = w.heap[k]?
theorem Fz.refl (X : Nat → Prop) (w : World) : Fz X w w := ⟨rfl, rfl, rfl, Nat.le_refl _, fun _ _ _ => rfl⟩
theorem Fz.trans {X : Nat → Prop} {a b c : World} (h : Fz X a b) (k : Fz X b c) : Fz X a c :=
 ⟨k.os.trans h.os, k.tape.trans h.tape, k.output.trans h.output, Nat.le_trans h.size k.size, fun i hi hn => (k.block i (Nat.lt_of_lt_of_le hi h.size) hn).trans (h.block i hi hn)⟩
theorem Fz.of_below {X : Nat → Prop} {a b : World} (h : Below a.heap.size a b) : Fz X a b := ⟨h.os, h.tape, h.output, h.size, fun k hk _ => h.block k hk⟩
theorem Fz.of_grown {X : Nat → Prop} {a b : World} {o : Option Nat} (h : a.grownBy b o) (hx : ∀ k, o = some k → X k) : Fz X a b :=
 ⟨h.os, h.tape, h.output, h.size, fun k hk hn => h.block k hk (fun e => hn (hx k e.symm))⟩
theorem Fz.mono {X Y : Nat → Prop} {a b : World} (h : Fz X a b) (hxy : ∀ k, X k → Y k) : Fz Y a b := ⟨h.os, h.tape, h.output, h.size, fun k hk hn => h.block k hk (fun hx => hn (hxy k hx))⟩
theorem Fz.below {X : Nat → Prop} {a b : World} {B : Nat} (h : Fz X a b) (hB : B ≤ a.heap.size) (hX : ∀ k, k < B → ¬ X k) : Below B a b := ⟨h.os, h.tape, h.output, h.size, fun k hk => h.block k (by omega) (hX k hk)⟩
theorem Fz.set {X : Nat → Prop} (w : World) (b i : Nat) (v : Value) (hb : X b) : Fz X w (w.setCell ⟨b, i, none⟩ v) :=
 ⟨rfl, rfl, rfl, by simp, fun k _ hn => by
  have : b ≠ k := fun e => hn (e ▸ hb)
  simp [World.setCell, Array.getElem?_modify, this]⟩
theorem below_grown' {w w' : World} {B e n : Nat} {v : Value} {xs : List Value} (hg : w.grownBy w' v.ownBlock) (ho : w.ownsRow B e 1 v n xs) (hB : B ≤ w.heap.size) : Below B w w' :=
 ⟨hg.os, hg.tape, hg.output, hg.size, fun k hk => hg.block k (by omega) (fun h => by have := (own_block_lt ho k h.symm).1; omega)⟩
structure RsAt (w : World) (B : Nat) (R : List (List Int)) (A : Option Addr) (cap : Nat) : Prop where
 l : R.length ≤ cap
 m : cap ≤ maxLen
 z : A = none → cap = 0
 r : R ≠ [] → ∃ b o, A = some ⟨b, o, none⟩ ∧ b < B ∧ ∀ (i : Nat) (r : List Int), R[i]? = some r → ∃ A' c', w.cell? ⟨b, o + i, none⟩ = some (.slice A' r.length c') ∧ IS w B r A' c' ∧ (A' = none → c' = 0)
theorem RsAt.below {w w' : World} {B : Nat} {R : List (List Int)} {A : Option Addr} {cap : Nat} (h : RsAt w B R A cap) (hb : Below B w w') : RsAt w' B R A cap :=
 ⟨h.l, h.m, h.z, fun hne => by
  obtain ⟨b, o, rfl, hl, hr⟩ := h.r hne
  exact ⟨b, o, rfl, hl, fun i r hx => by
   obtain ⟨A', c', h1, h2, h3⟩ := hr i r hx
   exact ⟨A', c', (hb.cell (p := ⟨b, _, none⟩) hl).trans h1, h2.below hb, h3⟩⟩⟩
theorem RsAt.mono {w : World} {B B' : Nat} {R : List (List Int)} {A : Option Addr} {cap : Nat} (h : RsAt w B R A cap) (hB : B ≤ B') : RsAt w B' R A cap :=
 ⟨h.l, h.m, h.z, fun hne => by
  obtain ⟨b, o, rfl, hl, hr⟩ := h.r hne
  exact ⟨b, o, rfl, by omega, fun i r hx => by
   obtain ⟨A', c', h1, h2, h3⟩ := hr i r hx
   exact ⟨A', c', h1, h2.mono hB, h3⟩⟩⟩
theorem RsAt.on {w w' : World} {R : List (List Int)} {A : Option Addr} {cap : Nat} (h : RsAt w w.heap.size R A cap) (hb : Below w.heap.size w w') : RsAt w' w'.heap.size R A cap := (h.below hb).mono hb.size
structure UsAt (w : World) (B : Nat) (T : List Nat) (A : Option Addr) (cap : Nat) : Prop where
 l : T.length ≤ cap
 m : cap ≤ maxLen
 z : A = none → cap = 0
 i : ∀ x ∈ T, x < 18446744073709551616
 r : T ≠ [] → ∃ b o, A = some ⟨b, o, none⟩ ∧ b < B ∧ ∀ (i : Nat) (x : Nat), T[i]? = some x → w.cell? ⟨b, o + i, none⟩ = some (.int .u64 (x : Int))
theorem UsAt.below {w w' : World} {B : Nat} {T : List Nat} {A : Option Addr} {cap : Nat} (h : UsAt w B T A cap) (hb : Below B w w') : UsAt w' B T A cap :=
 ⟨h.l, h.m, h.z, h.i, fun hne => by
  obtain ⟨b, o, rfl, hl, hr⟩ := h.r hne
  exact ⟨b, o, rfl, hl, fun i x hx => (hb.cell (p := ⟨b, _, none⟩) hl).trans (hr i x hx)⟩⟩
theorem UsAt.mono {w : World} {B B' : Nat} {T : List Nat} {A : Option Addr} {cap : Nat} (h : UsAt w B T A cap) (hB : B ≤ B') : UsAt w B' T A cap :=
 ⟨h.l, h.m, h.z, h.i, fun hne => by
  obtain ⟨b, o, rfl, hl, hr⟩ := h.r hne
  exact ⟨b, o, rfl, by omega, hr⟩⟩
theorem UsAt.on {w w' : World} {T : List Nat} {A : Option Addr} {cap : Nat} (h : UsAt w w.heap.size T A cap) (hb : Below w.heap.size w w') : UsAt w' w'.heap.size T A cap := (h.below hb).mono hb.size
theorem own_fz {w w' : World} {X : Nat → Prop} {B e z n : Nat} {u : Value} {xs : List Value} (hf : Fz X w w') (ho : w.ownsRow B e z u n xs) (hn : ∀ k, X k → u.ownBlock ≠ some k) : w'.ownsRow B e z u n xs := by
 refine ⟨ho.1, ?_⟩
 rcases ho.2 with h0 | ⟨g, cap, cur, h1, h2, h3, rest⟩
 ·exact .inl h0
 ·exact .inr ⟨g, cap, cur, h1, h2, (hf.block g (Array.getElem?_eq_some_iff.1 h3).1 (fun hx => hn g hx (by rw [h1]; rfl))).trans h3, rest⟩
theorem Cells.on {W W' : World} {g t : Nat} {cs : Array Value} (h : Cells W g t cs) (hb : Below W.heap.size W W') : Cells W' g t cs := (hb.block _ h.lt).trans h
structure Esc where
 size : Nat
 whole : Bool
 op : Bool
 last : Nat
def escNone : Esc := ⟨0, false, false, 0⟩
def inR (lo hi c : Nat) : Bool := decide (lo ≤ c) && decide (c ≤ hi)
def skipN (lo hi : Nat) : List Nat → Nat
 | [] => 0
 | c :: r => if inR lo hi c = true then skipN lo hi r + 1 else 0
theorem skipN_le (lo hi : Nat) : ∀ l, skipN lo hi l ≤ l.length
 | [] => Nat.le_refl _
 | c :: r => by
  unfold skipN
  split
  ·simpa using skipN_le lo hi r
  ·exact Nat.zero_le _
def ctlR (n : Nat) (r : List Nat) : Esc :=
 match r with
 | [] => ⟨n, false, true, 0⟩
 | c :: _ => if inR 64 126 c = true then ⟨n + 1, true, false, c⟩ else ⟨n, false, false, 0⟩
def readC (s : List Nat) : Esc := ctlR (2 + skipN 48 63 s + skipN 32 47 (s.drop (skipN 48 63 s))) (s.drop (skipN 48 63 s + skipN 32 47 (s.drop (skipN 48 63 s))))
def readT (l : List Nat) : Esc :=
 match l with
 | [] => escNone
 | c :: r => if c = 27 then (match r with
  | [] => ⟨1, false, true, 0⟩
  | d :: s => if d = 91 then readC s else if inR 64 95 d = true then ⟨2, true, false, d⟩ else ⟨1, false, false, 0⟩) else escNone
def refR : Nat → Nat → List Nat → Esc
 | _, n, [] => ⟨n, false, true, 0⟩
 | st, n, c :: r => if st = 0 then (if c = 91 then refR 1 (n + 1) r else if inR 64 95 c = true then ⟨2, true, false, c⟩ else ⟨1, false, false, 0⟩)
   else if st = 1 ∧ inR 48 63 c = true then refR 1 (n + 1) r
   else if inR 32 47 c = true then refR 2 (n + 1) r
   else if inR 64 126 c = true then ⟨n + 1, true, false, c⟩ else ⟨n, false, false, 0⟩
theorem refR2 : ∀ (r : List Nat) (n : Nat), refR 2 n r = ctlR (n + skipN 32 47 r) (r.drop (skipN 32 47 r))
 | [], n => rfl
 | c :: r, n => by
  rw [refR, skipN]
  by_cases h : inR 32 47 c = true
  ·simp only [h, if_true]
   rw [if_neg (by decide), if_neg (by simp), refR2 r (n + 1)]
   rw [List.drop_succ_cons, Nat.add_assoc, Nat.add_comm 1]
  ·rw [if_neg (by decide), if_neg (by simp), if_neg h, if_neg h]
   simp only [Nat.add_zero, List.drop_zero, ctlR]
theorem refR1 : ∀ (r : List Nat) (n : Nat), refR 1 n r = ctlR (n + skipN 48 63 r + skipN 32 47 (r.drop (skipN 48 63 r))) (r.drop (skipN 48 63 r + skipN 32 47 (r.drop (skipN 48 63 r))))
 | [], n => rfl
 | c :: r, n => by
  by_cases h : inR 48 63 c = true
  ·have e : skipN 48 63 (c :: r) = skipN 48 63 r + 1 := by rw [skipN, if_pos h]
   rw [e, refR, if_neg (by decide), if_pos ⟨rfl, h⟩, refR1 r (n + 1), List.drop_succ_cons]
   have : skipN 48 63 r + 1 + skipN 32 47 (r.drop (skipN 48 63 r)) = (skipN 48 63 r + skipN 32 47 (r.drop (skipN 48 63 r))) + 1 := by omega
   rw [this, List.drop_succ_cons]
   congr 1
   omega
  ·have e : skipN 48 63 (c :: r) = 0 := by rw [skipN, if_neg h]
   have := refR2 (c :: r) n
   rw [refR, if_neg (by decide), if_neg (by simp)] at this
   rw [e, refR, if_neg (by decide), if_neg (by simp [h]), this]
   simp
theorem ref_read (r : List Nat) : refR 0 1 r = readT (27 :: r) := by
 simp only [readT, if_true]
 cases r with
 | nil => rfl
 | cons d s =>
  rw [refR, if_pos rfl]
  by_cases h : d = 91
  ·rw [if_pos h]
   dsimp only
   rw [if_pos h, refR1 s 2]
   rfl
  ·rw [if_neg h]
   dsimp only
   rw [if_neg h]
theorem readT_not {c : Nat} (r : List Nat) (h : c ≠ 27) : readT (c :: r) = escNone := by simp only [readT, if_neg h]
theorem refR_ge : ∀ (r : List Nat) (st n : Nat), st ≠ 0 → n ≤ (refR st n r).size ∧ (refR st n r).size ≤ n + r.length ∧ ((refR st n r).whole = true → 1 ≤ r.length ∧ n + 1 ≤ (refR st n r).size)
 | [], st, n, h => by simp [refR]
 | c :: r, st, n, h => by
  rw [refR, if_neg h]
  split
  ·have := refR_ge r 1 (n + 1) (by decide)
   simp only [List.length_cons]
   omega
  ·split
   ·have := refR_ge r 2 (n + 1) (by decide)
    simp only [List.length_cons]
    omega
   ·split
    ·simp
    ·simp
theorem readT_size (l : List Nat) : (readT l).size ≤ l.length ∧ ((readT l).size = 0 ↔ l.head? ≠ some 27) := by
 cases l with
 | nil => simp [readT, escNone]
 | cons c r =>
  by_cases h : c = 27
  ·subst h
   rw [← ref_read]
   cases r with
   | nil => simp [refR]
   | cons d s =>
    rw [refR, if_pos rfl]
    split
    ·have := refR_ge s 1 (1 + 1) (by decide)
     simp only [List.length_cons, List.head?_cons, ne_eq, not_true, iff_false]
     omega
    ·split <;> simp
  ·rw [readT_not r h]
   simp [escNone, h]
def u8s (l : List Nat) : List UInt8 := l.map UInt8.ofNat
def nats (l : List UInt8) : List Nat := l.map UInt8.toNat
theorem u8s_len (l : List Nat) : (u8s l).length = l.length := by simp [u8s]
theorem nats_u8s (l : List Nat) (h : ∀ x ∈ l, x < 256) : nats (u8s l) = l := by
 unfold nats u8s
 rw [List.map_map]
 conv => rhs; rw [← List.map_id l]
 exact List.map_congr_left fun x hx => by simp [h x hx]
structure BY (w : World) (B : Nat) (xs : List Nat) (A : Option Addr) (cap : Nat) : Prop where
 l : xs.length ≤ cap
 m : cap ≤ maxLen
 z : A = none → cap = 0
 i : ∀ x ∈ xs, x < 256
 r : xs ≠ [] → ∃ b o, A = some ⟨b, o, none⟩ ∧ b < B ∧ ∀ (i : Nat) (x : Nat), xs[i]? = some x → w.cell? ⟨b, o + i, none⟩ = some (.int .u8 (x : Int))
theorem BY.below {w w' : World} {B : Nat} {xs : List Nat} {A : Option Addr} {cap : Nat} (h : BY w B xs A cap) (hb : Below B w w') : BY w' B xs A cap :=
 ⟨h.l, h.m, h.z, h.i, fun hne => by
  obtain ⟨b, o, rfl, hl, hr⟩ := h.r hne
  exact ⟨b, o, rfl, hl, fun i x hx => (hb.cell (p := ⟨b, _, none⟩) hl).trans (hr i x hx)⟩⟩
theorem BY.mono {w : World} {B B' : Nat} {xs : List Nat} {A : Option Addr} {cap : Nat} (h : BY w B xs A cap) (hB : B ≤ B') : BY w B' xs A cap :=
 ⟨h.l, h.m, h.z, h.i, fun hne => by
  obtain ⟨b, o, rfl, hl, hr⟩ := h.r hne
  exact ⟨b, o, rfl, by omega, hr⟩⟩
theorem BY.on {w w' : World} {xs : List Nat} {A : Option Addr} {cap : Nat} (h : BY w w.heap.size xs A cap) (hb : Below w.heap.size w w') : BY w' w'.heap.size xs A cap := (h.below hb).mono hb.size
theorem BY.at {w : World} {B : Nat} {xs : List Nat} {A : Option Addr} {cap i x : Nat} (h : BY w B xs A cap) (hx : xs[i]? = some x) : ∃ b o, A = some ⟨b, o, none⟩ ∧ b < B ∧ w.cell? ⟨b, o + i, none⟩ = some (.int .u8 (x : Int)) := by
 obtain ⟨b, o, e, hb, hc⟩ := h.r (by rintro rfl; simp at hx)
 exact ⟨b, o, e, hb, hc i x hx⟩
theorem BY.lt {w : World} {B : Nat} {xs : List Nat} {A : Option Addr} {cap i x : Nat} (h : BY w B xs A cap) (hx : xs[i]? = some x) : x < 256 := h.i x (List.mem_of_getElem? hx)
theorem BY.len {w : World} {B : Nat} {xs : List Nat} {A : Option Addr} {cap : Nat} (h : BY w B xs A cap) : xs.length ≤ 9223372036854775807 := by have := h.l; have := h.m; unfold maxLen at this; omega
theorem BY.drop {w : World} {B : Nat} {xs : List Nat} {b o cap k : Nat} (h : BY w B xs (some ⟨b, o, none⟩) cap) (hk : k < xs.length) : BY w B (xs.drop k) (some ⟨b, o + k, none⟩) (cap - k) :=
 ⟨(by have hh := h.l; simp; omega), (by have hh := h.m; omega), fun e => (by cases e), fun x hx => h.i x (List.mem_of_mem_drop hx), fun hne => by
  obtain ⟨b', o', e, hl, hr⟩ := h.r (by rintro rfl; simp at hk)
  obtain ⟨rfl, rfl⟩ : b = b' ∧ o = o' := by simpa using e
  exact ⟨b, o + k, rfl, hl, fun i x hx => by
   rw [List.getElem?_drop] at hx
   rw [Nat.add_assoc]
   exact hr _ x hx⟩⟩
theorem BY.take {w : World} {B : Nat} {xs : List Nat} {A : Option Addr} {cap : Nat} (h : BY w B xs A cap) (k : Nat) : BY w B (xs.take k) A cap :=
 ⟨(by have hh := h.l; simp; omega), h.m, h.z, fun x hx => h.i x (List.mem_of_mem_take hx), fun hne => by
  obtain ⟨b, o, rfl, hl, hr⟩ := h.r (by rintro rfl; simp at hne)
  exact ⟨b, o, rfl, hl, fun i x hx => by
   rw [List.getElem?_take] at hx
   split at hx
   ·exact hr i x hx
   ·cases hx⟩⟩
theorem drop_at {α : Type} {l : List α} {k : Nat} {x : α} (h : l[k]? = some x) : l.drop k = x :: l.drop (k + 1) := by
 obtain ⟨hk, rfl⟩ := List.getElem?_eq_some_iff.1 h
 exact List.drop_eq_getElem_cons hk
theorem at_lt {α : Type} {l : List α} {k : Nat} (h : k < l.length) : ∃ x, l[k]? = some x := ⟨l[k], List.getElem?_eq_getElem h⟩
def escV (e : Esc) : Value := .agg #[.int .i64 e.size, .bool e.whole, .bool e.op, .int .u8 e.last]
def u8C (l : List Nat) : List Value := l.map fun (x : Nat) => Value.int .u8 (x : Int)
def OwnB (w : World) (base : Nat) (l : List Nat) (v : Value) : Prop := w.ownsRow base 5 1 v l.length (u8C l)
theorem OwnB.by {w : World} {base : Nat} {l : List Nat} {v : Value} (h : OwnB w base l v) (hl : ∀ x ∈ l, x < 256) : ∃ A cap, v = .slice A l.length cap ∧ BY w w.heap.size l A cap := by
 rcases h.2 with ⟨h1, h2⟩ | ⟨g, cap, cur, h1, h2, h3, h4, h5, h6, h7⟩
 ·have hn : l = [] := List.eq_nil_of_length_eq_zero h2
  subst hn
  exact ⟨none, 0, by rw [h1]; rfl, ⟨Nat.le_refl _, by unfold maxLen; omega, fun _ => rfl, (fun x hx => absurd hx (by simp)), (fun hn => absurd rfl hn)⟩⟩
 ·refine ⟨_, cap, h1, ⟨h4, h5, fun e => (by cases e), hl, fun _ => ⟨g, 0, rfl, (Array.getElem?_eq_some_iff.1 h3).1, fun i x hx => ?_⟩⟩⟩
  have hc := World.ownsRow.cells h (g := g) (by rw [h1]; rfl) i (.int .u8 (x : Int)) (by simp [u8C, hx])
  rw [add0] at hc
  rw [Nat.zero_add]; exact hc
theorem OwnB.below {w w' : World} {base : Nat} {l : List Nat} {v : Value} (h : OwnB w base l v) (hb : Below w.heap.size w w') : OwnB w' base l v := ownsRow_below h hb
theorem ownB_nil (w : World) (base : Nat) : OwnB w base [] (.slice none 0 0) := ⟨rfl, .inl ⟨rfl, rfl⟩⟩
theorem info5 : (Tryz.prog.info? 5).map (fun i => (i.zero, i.size, i.bytes)) = some (some (.int .u8 0), 1, 1) := by kernel_rfl
theorem info_parts {t : TypeId} {z : Value} {n b : Nat} (h : (Tryz.prog.info? t).map (fun i => (i.zero, i.size, i.bytes)) = some (some z, n, b)) : ∃ i, Tryz.prog.info? t = some i ∧ i.zero = some z ∧ i.size = n ∧ i.bytes = b := by
 cases e : Tryz.prog.info? t with
 | none => rw [e] at h; simp at h
 | some i =>
  rw [e] at h
  simp at h
  exact ⟨i, rfl, h.1, h.2.1, h.2.2⟩
def strC (l : List ByteArray) : List Value := l.map Value.string
def OwnS (w : World) (base : Nat) (l : List ByteArray) (v : Value) : Prop := w.ownsRow base 9 1 v l.length (strC l)
theorem OwnS.below {w w' : World} {base : Nat} {l : List ByteArray} {v : Value} (h : OwnS w base l v) (hb : Below w.heap.size w w') : OwnS w' base l v := ownsRow_below h hb
theorem valid_iff (r : Int) : Lib.validRune r = true ↔ 0 ≤ r ∧ r ≤ 1114111 ∧ ¬ (55296 ≤ r ∧ r ≤ 57343) := by
 unfold Lib.validRune
 rw [decide_eq_true_eq]
 omega
theorem rr_any (r : Int) (w : World) : Calls Tryz.prog 55 #[.int .i32 r] w fun e w' => e = .returned (.bool (Lib.validRune r)) ∧ w' = w := by
 have hv := valid_iff r
 obtain ⟨V, hV⟩ : ∃ V, Lib.validRune r = V := ⟨_, rfl⟩
 rw [hV] at hv ⊢
 by_cases c1 : 0 ≤ r
 ·by_cases c2 : r ≤ 1114111
  ·by_cases c3 : r < 55296
   ·obtain rfl : V = true := hv.2 (by omega)
    clear hv hV
    go_enter Tryz.func55, Tryz.ntmps55
    go_wp2
    go_ret
    exact ⟨rfl, rfl⟩
   ·have d3 : decide (r < 55296) = false := by simpa using c3
    by_cases c4 : 57343 < r
    ·obtain rfl : V = true := hv.2 (by omega)
     clear hv hV
     go_enter Tryz.func55, Tryz.ntmps55
     go_wp2
     go_ret
     exact ⟨rfl, rfl⟩
    ·have d4 : decide (57343 < r) = false := by simpa using c4
     obtain rfl : V = false := by cases V; rfl; exact absurd (hv.1 rfl) (by omega)
     clear hv hV
     go_enter Tryz.func55, Tryz.ntmps55
     go_wp2
     go_ret
     exact ⟨rfl, rfl⟩
  ·have d2 : decide (r ≤ 1114111) = false := by simpa using c2
   obtain rfl : V = false := by cases V; rfl; exact absurd (hv.1 rfl) (by omega)
   clear hv hV
   go_enter Tryz.func55, Tryz.ntmps55
   go_wp2
   go_ret
   exact ⟨rfl, rfl⟩
 ·have d1 : decide (0 ≤ r) = false := by simpa using c1
  obtain rfl : V = false := by cases V; rfl; exact absurd (hv.1 rfl) (by omega)
  clear hv hV
  go_enter Tryz.func55, Tryz.ntmps55
  go_wp2
  go_ret
  exact ⟨rfl, rfl⟩
def scR (r : Int) : Int := if Lib.validRune r then r else 65533
theorem scR_valid (r : Int) : Lib.validRune (scR r) = true := by
 unfold scR
 split
 ·assumption
 ·decide
theorem encZ_scR (r : Int) : encodeRuneZ r = encodeRuneZ (scR r) := by
 unfold scR
 split
 ·rfl
 ·rename_i h
  have h1 : r < 0 ∨ (55296 ≤ r ∧ r ≤ 57343) ∨ 1114111 < r := by
   have h3 : ¬ (0 ≤ r ∧ r ≤ 1114111 ∧ ¬ (55296 ≤ r ∧ r ≤ 57343)) := fun e => h ((valid_iff r).2 e)
   omega
  rw [encodeRuneZ_bad h1]
  decide
def putN (r : Int) : List Nat := (encodeRuneZ r).map Int.toNat
theorem putN_lt (r : Int) : ∀ x ∈ putN r, x < 256 := by
 intro x hx
 obtain ⟨z, hz, rfl⟩ := List.mem_map.1 hx
 have := encodeRuneZ_byte r z hz
 omega
theorem putN_len (r : Int) : (putN r).length ≤ 4 := by
 unfold putN
 rw [List.length_map]
 exact (encodeRuneZ_length r).2
def PutOk (w : World) (r : Int) (e : Ending) (w' : World) : Prop := ∃ A cap, e = .returned (.slice A (putN r).length cap) ∧ BY w' w'.heap.size (putN r) A cap ∧ Below w.heap.size w w'
end Go.Proofs.YtfafhbgkmlmmdaaGreatDoor
namespace Go.Proofs.YtfafhbgkmlmmdaaGreatDoor
open Go.RowKit Go.Shelf
open Go.Lib Go.Great
theorem below_setRow {B : Nat} {w w1 : World} (h : Below B w w1) {g : Nat} (hg : B ≤ g) (cs : Array Value) : Below B w (w1.setRow g cs) :=
 h.trans ⟨rfl, rfl, rfl, by simp, fun k hk => setRow_other _ _ _ _ (by omega)⟩
def bstep (P : Program) (t : Array Value) (o : Oper) : Option (Array Value) :=
 match o.guard, o.op, o.dst with
 | none, .build ty parts, some d => (P.built ty (parts.map fun (i, x) => (i, Act.eval { tmps := t, defers := [] } x)).toList).map fun cs => t.setIfInBounds d (.agg cs)
 | _, _, _ => none
theorem wpList_builds {P : Program} {ops : Array Oper} {Q : Exit → Act → World → Prop} {w : World} {rest : List Oper} (bs : List Oper) : ∀ (a : Act) (t' : Array Value), bs.foldlM (bstep P) a.tmps = some t' → wpList P ops Q rest { a with tmps := t' } w → wpList P ops Q (bs ++ rest) a w := by
 induction bs with
 | nil => intro a t' h k; simp at h; subst h; exact k
 | cons o bs ih =>
  intro a t' h k
  rw [List.foldlM_cons] at h
  cases hs : bstep P a.tmps o with
  | none => rw [hs] at h; cases h
  | some t1 =>
   rw [hs] at h
   have h : bs.foldlM (bstep P) t1 = some t' := h
   unfold bstep at hs
   split at hs
   ·rename_i ty parts d hg ho hd
    simp only [Option.map_eq_some_iff] at hs
    obtain ⟨cs, hcs, rfl⟩ := hs
    have e : (parts.map fun (i, x) => (i, a.eval x)) = (parts.map fun (i, x) => (i, Act.eval { tmps := a.tmps, defers := [] } x)) := by
     congr 1
    rw [← e] at hcs
    refine wpList_build hg ty parts ho (by rw [hcs]; rfl) ?_
    rw [hcs]
    have e2 : a.put o.dst (.agg cs) = { a with tmps := a.tmps.setIfInBounds d (.agg cs) } := by rw [hd]; rfl
    show wpList P ops Q (bs ++ rest) (a.put o.dst (.agg cs)) w
    rw [e2]
    exact ih _ t' h k
   ·cases hs
abbrev NmE := List UInt8 × Int
def nmE : List NmE := [([97, 109, 112], 38), ([97, 112, 111, 115], 39), ([99, 111, 112, 121], 169), ([101, 109, 115, 112], 8195), ([101, 110, 115, 112], 8194), ([103, 116], 62), ([104, 101, 108, 108, 105, 112], 8230), ([108, 97, 113, 117, 111], 171), ([108, 100, 113, 117, 111], 8220), ([108, 114, 109], 8206), ([108, 115, 113, 117, 111], 8216), ([108, 116], 60), ([109, 100, 97, 115, 104], 8212), ([109, 105, 100, 100, 111, 116], 183), ([110, 98, 115, 112], 160), ([110, 100, 97, 115, 104], 8211), ([113, 117, 111, 116], 34), ([114, 97, 113, 117, 111], 187), ([114, 100, 113, 117, 111], 8221), ([114, 101, 103], 174), ([114, 108, 109], 8207), ([114, 115, 113, 117, 111], 8217), ([115, 104, 121], 173), ([116, 104, 105, 110, 115, 112], 8201), ([122, 119, 106], 8205), ([122, 119, 110, 106], 8204)]
def ncell (x : NmE) : List Value := [.string ⟨x.1.toArray⟩, .int .i32 x.2]
def NR : Array Value := (nmE.flatMap ncell).toArray
def ZNR : Array Value := (List.replicate 26 [Value.string ⟨#[]⟩, .int .i32 0]).flatten.toArray
def FR (v : Value) : Array Value := (#[v] ++ (nmE.map fun x => Value.agg (ncell x).toArray).toArray) ++ #[.agg NR]
attribute [local irreducible] wpList Code.wp NR ZNR FR
theorem rows_any (w : World) : Calls Tryz.prog 222 #[] w fun e w' => e = .returned (.agg NR) ∧ Below w.heap.size w w' := by
 refine calls_of_wp Tryz.func222 rfl ?_
 apply wp_seq_k; intro K hK
 apply wp_region_lit
 refine wpList_allocTo rfl (some 0) rfl (.pointer (some ⟨w.heap.size, 0, none⟩)) (.cells ZNR 275) (by as_aux_lemma => kernel_rfl) ?_
 apply wpList_nil
 refine hK _ _ ?_
 clear hK K
 apply wp_seq_k; intro K hK
 apply wp_region_lit
 refine wpList_splitAt 27 _ (List.take_append_drop 27 _).symm ?_
 refine wpList_builds _ _ (FR (.pointer (some ⟨w.heap.size, 0, none⟩))) (by as_aux_lemma => kernel_rfl) ?_
 have hz := heap_alloc_new w (.cells ZNR 275)
 have h0 : ∀ d, Act.eval { tmps := FR (.pointer (some ⟨w.heap.size, 0, none⟩)), defers := d } (.tmp 0) = .pointer (some ⟨w.heap.size, 0, none⟩) := fun d => by as_aux_lemma => kernel_rfl
 have h1 : ∀ d, Act.eval { tmps := FR (.pointer (some ⟨w.heap.size, 0, none⟩)), defers := d } (.tmp 27) = .agg NR := fun d => by as_aux_lemma => kernel_rfl
 refine wpList_store_row rfl 275 (.tmp 0) (.tmp 27) rfl w.heap.size NR (h0 _) (h1 _) 275 ZNR hz (by as_aux_lemma => kernel_rfl) (by as_aux_lemma => kernel_rfl) (by as_aux_lemma => kernel_rfl) ?_
 apply wpList_nil
 refine hK _ _ ?_
 clear hK K
 refine wp_ret ?_
 refine bodyPost_ret (v := .agg NR) (results_cell_row rfl _ _ w.heap.size 275 NR (0, 0) (.array 26 262) (h0 []) ?_ (by as_aux_lemma => kernel_rfl) rfl (by as_aux_lemma => kernel_rfl)) rfl ⟨rfl, ?_⟩
 ·exact setRow_heap _ _ _ _ _ _ hz
 ·exact below_setRow (below_new w _) (Nat.le_refl _) _
end Go.Proofs.YtfafhbgkmlmmdaaGreatDoor
