/-
  What the rows of flat lean on, part t.
-/
import Derived.Test.YtfafhbgkmlmmdaaGreatDoorYqg
import Derived.Test.YtfafhbgkmlmmdaaGreatDoorYrq
import Derived.Deep.CutRange
set_option maxRecDepth 100000
set_option maxHeartbeats 40000000
namespace Go.Proofs.YtfafhbgkmlmmdaaGreatDoor.G
open Go.RowKit Go.Shelf Go.Lib Go.Maps Go.Sort
def OwnR (w : World) (base : Nat) (l : List AT) (v : Value) : Prop := w.ownsRow base 147 2 v l.length (attsC l)
theorem OwnR.below {w w' : World} {base : Nat} {l : List AT} {v : Value} (h : OwnR w base l v) (hb : Below w.heap.size w w') : OwnR w' base l v := ownsRow_below h hb
theorem OwnR.fz {w w' : World} {base : Nat} {l : List AT} {v : Value} {X : Nat → Prop} (h : OwnR w base l v) (hf : Fz X w w') (hX : ∀ k, base ≤ k → ¬ X k) : OwnR w' base l v :=
 own_fz hf h (fun k hk e => hX k (own_block_lt h k e).1 hk)
theorem OwnR.set {w : World} {base : Nat} {l : List AT} {v : Value} (h : OwnR w base l v) {j : Nat} (hj : j < base) (i : Nat) (x : Value) : OwnR (w.setCell ⟨j, i, none⟩ x) base l v :=
 h.fz (Fz.set (X := (· = j)) _ _ _ _ rfl) (fun k hk e => by omega)
theorem ownR_nil (w : World) (base : Nat) : OwnR w base [] (.slice none 0 0) := ⟨rfl, .inl ⟨rfl, rfl⟩⟩
theorem OwnR.slice {w : World} {base : Nat} {l : List AT} {v : Value} (h : OwnR w base l v) : ∃ A n c, v = .slice A n c := by
 rcases h.2 with ⟨h0, _⟩ | ⟨g, cap, cur, h1, _⟩
 ·exact ⟨none, 0, 0, h0⟩
 ·exact ⟨_, _, _, h1⟩
theorem info39 : (Tryz.prog.info? 147).map (fun i => (i.zero, i.size, i.bytes)) = some (some (.agg #[.string ⟨#[]⟩, .string ⟨#[]⟩]), 2, 32) := by kernel_rfl
theorem wpList_appR {ops : Array Oper} {rest : List Oper} {o : Oper} {a : Act} {w : World} {Q : Exit → Act → World → Prop} (hgd : o.guard = none) (s x : Operand)
  (ho : o.op = .call { callee := .builtin .append, args := #[s, x], argTypes := #[81, 81] }) (base : Nat) (v : Value) (l : List AT) (a1 : AT) (hs : a.eval s = v) (w0 : World) (h0 : OwnR w0 base l v) (hw0 : w0.alloc (.cells #[strV a1.1, strV a1.2] 147) = w)
  (hx : a.eval x = .slice (some ⟨w0.heap.size, 0, none⟩) 1 1) (h63 : l.length ≤ 1000000) (hbase : base ≤ w0.heap.size)
  (h : ∀ g cap w', OwnR w' base (l ++ [a1]) (.slice (some ⟨g, 0, none⟩) (l.length + 1) cap) → Below base w0 w' → wpList Tryz.prog ops Q rest (a.put o.dst (.slice (some ⟨g, 0, none⟩) (l.length + 1) cap)) w') : wpList Tryz.prog ops Q (o :: rest) a w := by
 obtain ⟨i, hi, hz, hs1, hb1⟩ := info_parts info39
 subst hw0
 have al := below_new w0 (.cells #[strV a1.1, strV a1.2] 147)
 have hown := h0.below al
 have hsz : base ≤ (w0.alloc (.cells #[strV a1.1, strV a1.2] 147)).heap.size := by rw [World.size_alloc]; omega
 refine wpList_append_lies _ hgd s x 81 ho base 147 i _ 2 32 Tryz.underlying81 hi hz hs1 hb1 (by decide) (by decide) v l.length (attsC l) hs hown ⟨w0.heap.size, 0, none⟩ 1 1 [strV a1.1, strV a1.2] hx rfl (World.news_of_block (heap_alloc_new w0 _)) (fun u hu => ?_) (by decide) (by unfold maxLen; omega) (by omega) hsz _ rfl ?_
 ·simp at hu
  rcases hu with rfl | rfl <;> rfl
 ·intro g cap w' h1 h2 _ _
  refine h g cap w' ?_ ?_
  ·unfold OwnR
   rw [attsC_snoc, List.length_append]
   exact h1
  ·refine (al.mono hbase).trans ⟨h2.os, h2.tape, h2.output, h2.size, fun k hk => h2.block k (by omega) (fun e => by have := (own_block_lt hown k e.symm).1; omega)⟩
def RTOk (w : World) (T : TG) (e : Ending) (w' : World) : Prop := ∃ v, e = .returned (tagV T v) ∧ OwnR w' w.heap.size T.attrs v ∧ Below w.heap.size w w'
def tagCs (kind : Nat) (S : ByteArray) (v : Value) : Array Value := #[.int .i64 (kind : Int), .int .i64 0, .string S, v, .bool false, .bool false]
structure RInv (N kind : Nat) (xs : List Nat) (T : TG) (w : World) (s : RS) (j : Nat) (v : Value) (wr : World) : Prop where
 h6 : s.st ≤ 6
 hj : j ≤ N
 hc : Cells wr (w.heap.size + 1) 83 (tagCs kind ⟨(u8s s.tn).toArray⟩ v)
 ho : OwnR wr (w.heap.size + 1 + 1) s.«atl» v
 l1 : s.«atl».length ≤ j
 l2 : s.nm.length ≤ j
 l3 : s.vl.length ≤ j
 l4 : s.tn.length ≤ j
 lq : s.q < 256
 hT : refGo N kind s (xs.drop j) = T
 hb : Below w.heap.size w wr
 hx : Cells wr w.heap.size 83 #[.int .i64 0, .int .i64 0, .string ⟨#[]⟩, .slice none 0 0, .bool false, .bool false]
def RRel (N kind : Nat) (xs : List Nat) (T : TG) (w : World) (st sl nm vl q i : Value) (wr : World) : Prop := ∃ (s : RS) (j : Nat) (v : Value), st = .int .i64 (s.st : Int) ∧ sl = .bool s.slash ∧ nm = .string ⟨(u8s s.nm).toArray⟩ ∧ vl = .string ⟨(u8s s.vl).toArray⟩ ∧ q = .int .u8 (s.q : Int) ∧ i = .int .i64 (j : Int) ∧ RInv N kind xs T w s j v wr
theorem slice_one (b o len cap l : Nat) (hc : l < cap) (W : World) :
  (Instr.slice 22 (.slice (some ⟨b, o, none⟩) len cap) (some (.int .i64 (l : Int))) (some (.int .i64 ((l : Int) + 1))) none).run Tryz.prog W = .ok (.slice (some ⟨b, o + l, none⟩) 1 (cap - l)) W := by
 have := slice_win b o len cap l (l + 1) (by omega) (by omega) hc W
 rw [show l + 1 - l = 1 by omega] at this
 exact this
theorem str_size (l : List Nat) {n : Nat} (h : l.length ≤ n) : (⟨(u8s l).toArray⟩ : ByteArray).size ≤ n := by rw [size_str]; exact h
theorem RInv.on {N kind : Nat} {xs : List Nat} {T : TG} {w : World} {s : RS} {j : Nat} {v : Value} {wr wr' : World} (h : RInv N kind xs T w s j v wr) (hb : Below wr.heap.size wr wr') : RInv N kind xs T w s j v wr' :=
 ⟨h.h6, h.hj, h.hc.on hb, h.ho.below hb, h.l1, h.l2, h.l3, h.l4, h.lq, h.hT, h.hb.trans (hb.mono h.hb.size), h.hx.on hb⟩
structure Side (P : Prop) : Prop where
 out : P
structure Parts (C : Prop) where
 T0 : Prop
 T1 : Prop
 T2 : Prop
 T3 : Prop
 T4 : Prop
 T5 : Prop
 T6 : Prop
 f : Side T0 → Side T1 → Side T2 → Side T3 → Side T4 → Side T5 → Side T6 → C
theorem tg4 {W : World} {g kind : Nat} {ST : ByteArray} {v : Value} (h : Cells W g 83 (tagCs kind ST v)) : W.cell? ⟨g, 3, none⟩ = some v ∧ W.cell? ⟨g, 2, none⟩ = some (.string ST) ∧ W.frozen? ⟨g, 3, none⟩ = false ∧ W.frozen? ⟨g, 2, none⟩ = false := ⟨h.cell 3, h.cell 2, h.froz 3, h.froz 2⟩
theorem tg5 {N kind : Nat} {xs : List Nat} {T : TG} {w wr w5 : World} {s : RS} {j : Nat} {v : Value} {ST : ByteArray} (hI : RInv N kind xs T w s j v wr) (hb5 : Below (w.heap.size + 1 + 1) wr w5) (hc : Cells wr (w.heap.size + 1) 83 (tagCs kind ST v)) :
  Below w.heap.size w w5 ∧ Cells w5 (w.heap.size + 1) 83 (tagCs kind ST v) ∧ Cells w5 w.heap.size 83 #[.int .i64 0, .int .i64 0, .string ⟨#[]⟩, .slice none 0 0, .bool false, .bool false] :=
 ⟨hI.hb.trans (hb5.mono (by omega)), (hb5.block _ (by omega)).trans hc, (hb5.block _ (by omega)).trans hI.hx⟩
def refTag_parts : Parts (∀ (b o cap n kind : Nat) (xs : List Nat) (w : World) (_hb : BY w w.heap.size xs (some ⟨b, o, none⟩) cap) (_hn : n ≤ xs.length) (_hl : xs.length ≤ 100000), Calls Tryz.prog 78 #[.slice (some ⟨b, o, none⟩) xs.length cap, .int .i64 (n : Int), .int .i64 (kind : Int)] w (RTOk w (refGo xs.length kind rs0 (xs.drop n)))) := ⟨_, _, _, _, _, _, _, fun H0 H1 H2 H3 H4 H5 H6 b o cap n kind xs w hb hn hl => by
 obtain ⟨T, hT⟩ : ∃ T, refGo xs.length kind rs0 (xs.drop n) = T := ⟨_, rfl⟩
 rw [hT]
 have hok : ∀ (T' : TG) v w', T' = T → OwnR w' (w.heap.size + 1 + 1) T'.attrs v → Below w.heap.size w w' → RTOk w T (.returned (tagV T' v)) w' := fun T' v w' h1 h2 h3 => by
  subst h1
  exact ⟨v, rfl, ownsRow_base h2 (by omega), h3⟩
 obtain ⟨Q, hQ⟩ : ∃ Q, RTOk w T = Q := ⟨_, rfl⟩
 rw [hQ] at hok ⊢
 have hcap := hb.l
 have hlen := hb.len
 have W1b : Below w.heap.size w ((w.alloc (.cells #[.int .i64 0, .int .i64 0, .string ⟨#[]⟩, .slice none 0 0, .bool false, .bool false] 83)).alloc (.cells (tagCs kind ⟨#[]⟩ (.slice none 0 0)) 83)) := (below_new _ _).trans ((below_new _ _).mono (by simp))
 have W1c := cells_new (w.alloc (.cells #[.int .i64 0, .int .i64 0, .string ⟨#[]⟩, .slice none 0 0, .bool false, .bool false] 83)) (tagCs kind ⟨#[]⟩ (.slice none 0 0)) 83
 rw [World.size_alloc] at W1c
 have W1x : Cells ((w.alloc (.cells #[.int .i64 0, .int .i64 0, .string ⟨#[]⟩, .slice none 0 0, .bool false, .bool false] 83)).alloc (.cells (tagCs kind ⟨#[]⟩ (.slice none 0 0)) 83)) w.heap.size 83 #[.int .i64 0, .int .i64 0, .string ⟨#[]⟩, .slice none 0 0, .bool false, .bool false] := (cells_new w _ _).on (below_new _ _)
 have hst : RRel xs.length kind xs T w (.int .i64 0) (.bool false) (.string ⟨#[]⟩) (.string ⟨#[]⟩) (.int .u8 0) (.int .i64 (n : Int)) _ := ⟨rs0, n, .slice none 0 0, rfl, rfl, rfl, rfl, rfl, rfl, ⟨Nat.zero_le _, hn, W1c, ownR_nil _ _, Nat.zero_le _, Nat.zero_le _, Nat.zero_le _, Nat.zero_le _, by decide, hT, W1b, W1x⟩⟩
 have CB := fun W c => blank_any c W
 have CL := fun W x (hx : x < 256) => refLower_any [x] (by simpa using hx) (by simp) W
 unfold strV at CL
 obtain ⟨N, hN⟩ : ∃ N, xs.length = N := ⟨_, rfl⟩
 rw [hN] at hst hn hl hlen hcap ⊢
 have HH := Lib.hid (And.intro hst (And.intro CB (And.intro CL (And.intro hok (And.intro hb (And.intro hN hl))))))
 clear hst CB CL hok hb hN hl hT hQ W1b W1c W1x
 unfold tagCs at HH
 go_enter Tryz.func78, Tryz.ntmps78
 go_wp2_with fail
 go_loopw [8, 9, 10, 11, 12, 13] (fun st sl nm vl q i wr => RRel N kind xs T w st sl nm vl q i wr) (fun _ _ _ _ _ i _ => N - (RowKit.intOf i).toNat)
 case atStart => exact HH.out.1
 case round =>
  obtain ⟨⟨st, sl, tn, nm, vl, q, l0⟩, j, v, rfl, rfl, rfl, rfl, rfl, rfl, hI⟩ := hrel
  obtain ⟨Av, nv, cv, rfl⟩ := hI.ho.slice
  have h6 : st ≤ 6 := hI.h6
  have hj := hI.hj
  have lq : q < 256 := hI.lq
  dsimp only
  have z1 := hI.hc.lt
  have z0 := hI.hx.lt
  by_cases hlt : j < N
  case neg =>
   obtain rfl : j = N := by omega
   have hT := hI.hT
   rw [List.drop_of_length_le (by rw [HH.out.2.2.2.2.2.1]; exact Nat.le_refl _)] at hT
   have hT : refEnd j kind ⟨st, sl, tn, nm, vl, q, l0⟩ = T := hT
   obtain ⟨ST, hST⟩ : ∃ S : ByteArray, ⟨(u8s tn).toArray⟩ = S := ⟨_, rfl⟩
   have hc : Cells wr (w.heap.size + 1) 83 (tagCs kind ⟨(u8s tn).toArray⟩ (.slice Av nv cv)) := hI.hc
   rw [hST] at hc
   have HST := Lib.hid hST
   by_cases h2 : 2 ≤ st
   case neg =>
    have hTT : (⟨kind, j, tn, l0, false, false⟩ : TG) = T := by rw [← hT, refEnd, if_neg h2]
    have i2 : ¬ (2 : Int) ≤ (st : Int) := by omega
    have q0 := (hc).cell 0
    have fr0 := (hc).froz 0
    have s0 := (hI.hx).cell 0
    have t0 := (hI.hx).froz 0
    have q1 := (hc).cell 1
    have fr1 := (hc).froz 1
    have s1 := (hI.hx).cell 1
    have t1 := (hI.hx).froz 1
    have q2 := (hc).cell 2
    have fr2 := (hc).froz 2
    have s2 := (hI.hx).cell 2
    have t2 := (hI.hx).froz 2
    have q3 := (hc).cell 3
    have fr3 := (hc).froz 3
    have s3 := (hI.hx).cell 3
    have t3 := (hI.hx).froz 3
    have q4 := (hc).cell 4
    have fr4 := (hc).froz 4
    have s4 := (hI.hx).cell 4
    have t4 := (hI.hx).froz 4
    have q5 := (hc).cell 5
    have fr5 := (hc).froz 5
    have s5 := (hI.hx).cell 5
    have t5 := (hI.hx).froz 5
    simp [tagCs] at q0 q1 q2 q3 q4 q5 s0 s1 s2 s3 s4 s5
    have hoR : OwnR wr (w.heap.size + 1 + 1) l0 (.slice Av nv cv) := hI.ho
    have HF := Lib.hid (And.intro hoR hI.hb)
    have HTT := Lib.hid hTT
    clear hT hc hTT hI hST h2 hoR h6
    generalize (st : Int) = SI at *
    go_wp2_with fail
    refine bodyPost_ret (v := .agg #[.int .i64 (kind : Int), .int .i64 (j : Int), .string ST, .slice Av nv cv, .bool false, .bool false]) ?_ rfl ?_
    ·simp [results, Tryz.results78, go_sem, s0, s1, s2, s3, s4, s5]
    ·have h := HH.out.2.2.2.1 _ (.slice Av nv cv) _ HTT.out (((((((HF.out.1.set (j := w.heap.size + 1) (by omega) 1 (.int .i64 (j : Int))).set (j := w.heap.size) (by omega) 0 (.int .i64 (kind : Int))).set (j := w.heap.size) (by omega) 1 (.int .i64 (j : Int))).set (j := w.heap.size) (by omega) 2 (.string ST)).set (j := w.heap.size) (by omega) 3 (.slice Av nv cv)).set (j := w.heap.size) (by omega) 4 (.bool false)).set (j := w.heap.size) (by omega) 5 (.bool false)) (((((((HF.out.2.setc (j := w.heap.size + 1) (by omega) 1 (.int .i64 (j : Int))).setc (j := w.heap.size) (by omega) 0 (.int .i64 (kind : Int))).setc (j := w.heap.size) (by omega) 1 (.int .i64 (j : Int))).setc (j := w.heap.size) (by omega) 2 (.string ST)).setc (j := w.heap.size) (by omega) 3 (.slice Av nv cv)).setc (j := w.heap.size) (by omega) 4 (.bool false)).setc (j := w.heap.size) (by omega) 5 (.bool false))
     unfold tagV strV at h
     dsimp only at h
     rw [HST.out] at h
     exact h
   case pos =>
    have hTT : (⟨kind, j, tn, l0 ++ [(nm, vl)], false, false⟩ : TG) = T := by rw [← hT, refEnd, if_pos h2]
    have i2 : (2 : Int) ≤ (st : Int) := by omega
    have HTT := Lib.hid hTT
    have HC := Lib.hid hc
    have hq3 := hc.cell 3
    simp [tagCs] at hq3
    obtain ⟨SN, hSN⟩ : ∃ S : ByteArray, ⟨(u8s nm).toArray⟩ = S := ⟨_, rfl⟩
    obtain ⟨SV, hSV⟩ : ∃ S : ByteArray, ⟨(u8s vl).toArray⟩ = S := ⟨_, rfl⟩
    have hw0 : wr.alloc (.cells #[strV ((nm, vl) : AT).1, strV ((nm, vl) : AT).2] 147) = wr.alloc (.cells #[.string SN, .string SV] 147) := by
     unfold strV
     dsimp only
     rw [hSN, hSV]
    rw [hSN, hSV]
    clear hT hc hTT hST h2 h6 hSN hSV
    generalize (st : Int) = SI at *
    have hoR : OwnR wr (w.heap.size + 1 + 1) l0 (.slice Av nv cv) := hI.ho
    have hll : l0.length ≤ 1000000 := by have h1 : l0.length ≤ j := hI.l1; have h2 := HH.out.2.2.2.2.2.2; omega
    have HA := Lib.hid (And.intro hoR (And.intro hll (And.intro hI hw0)))
    clear hoR hll hI hw0
    go_wp2_with (first
     | (at_builtin; refine wpList_appR rfl (.tmp 193) (.tmp 197) rfl (w.heap.size + 1 + 1) _ l0 ((nm, vl) : AT) rfl wr HA.out.1 HA.out.2.2.2 rfl HA.out.2.1 (by omega) ?_)
     | fail)
    intro g5 cp5 w5 ho5 hb5
    obtain ⟨hw5, hc5, hx5⟩ := tg5 HA.out.2.2.1 hb5 HC.out
    clear hb5
    have q0 := (hc5).cell 0
    have fr0 := (hc5).froz 0
    have s0 := (hx5).cell 0
    have t0 := (hx5).froz 0
    have q1 := (hc5).cell 1
    have fr1 := (hc5).froz 1
    have s1 := (hx5).cell 1
    have t1 := (hx5).froz 1
    have q2 := (hc5).cell 2
    have fr2 := (hc5).froz 2
    have s2 := (hx5).cell 2
    have t2 := (hx5).froz 2
    have q3 := (hc5).cell 3
    have fr3 := (hc5).froz 3
    have s3 := (hx5).cell 3
    have t3 := (hx5).froz 3
    have q4 := (hc5).cell 4
    have fr4 := (hc5).froz 4
    have s4 := (hx5).cell 4
    have t4 := (hx5).froz 4
    have q5 := (hc5).cell 5
    have fr5 := (hc5).froz 5
    have s5 := (hx5).cell 5
    have t5 := (hx5).froz 5
    simp [tagCs] at q0 q1 q2 q3 q4 q5 s0 s1 s2 s3 s4 s5
    have ho6 := ho5.set (j := w.heap.size + 1) (by omega) 3 (.slice (some ⟨g5, 0, none⟩) (l0.length + 1) cp5)
    have hb6 := hw5.setc (j := w.heap.size + 1) (by omega) 3 (.slice (some ⟨g5, 0, none⟩) (l0.length + 1) cp5)
    have HF := Lib.hid (And.intro ho6 hb6)
    clear ho5 hw5 hc5 hx5 ho6 hb6
    clear hq3
    go_wp2_with fail
    refine bodyPost_ret (v := .agg #[.int .i64 (kind : Int), .int .i64 (j : Int), .string ST, .slice (some ⟨g5, 0, none⟩) (l0.length + 1) cp5, .bool false, .bool false]) ?_ rfl ?_
    ·simp [results, Tryz.results78, go_sem, s0, s1, s2, s3, s4, s5]
    ·have h := HH.out.2.2.2.1 _ (.slice (some ⟨g5, 0, none⟩) (l0.length + 1) cp5) _ HTT.out (((((((HF.out.1.set (j := w.heap.size + 1) (by omega) 1 (.int .i64 (j : Int))).set (j := w.heap.size) (by omega) 0 (.int .i64 (kind : Int))).set (j := w.heap.size) (by omega) 1 (.int .i64 (j : Int))).set (j := w.heap.size) (by omega) 2 (.string ST)).set (j := w.heap.size) (by omega) 3 (.slice (some ⟨g5, 0, none⟩) (l0.length + 1) cp5)).set (j := w.heap.size) (by omega) 4 (.bool false)).set (j := w.heap.size) (by omega) 5 (.bool false)) (((((((HF.out.2.setc (j := w.heap.size + 1) (by omega) 1 (.int .i64 (j : Int))).setc (j := w.heap.size) (by omega) 0 (.int .i64 (kind : Int))).setc (j := w.heap.size) (by omega) 1 (.int .i64 (j : Int))).setc (j := w.heap.size) (by omega) 2 (.string ST)).setc (j := w.heap.size) (by omega) 3 (.slice (some ⟨g5, 0, none⟩) (l0.length + 1) cp5)).setc (j := w.heap.size) (by omega) 4 (.bool false)).setc (j := w.heap.size) (by omega) 5 (.bool false))
     unfold tagV strV at h
     dsimp only at h
     rw [HST.out] at h
     exact h
  case pos =>
   have i1 : (j : Int) < (N : Int) := by omega
   obtain ⟨x, hx⟩ := at_lt (l := xs) (k := j) (by rw [HH.out.2.2.2.2.2.1]; exact hlt)
   have hx256 := HH.out.2.2.2.2.1.lt hx
   have hbr := HH.out.2.2.2.2.1.below hI.hb
   obtain ⟨b', o', e', _, d0⟩ := hbr.at hx
   obtain ⟨rfl, rfl⟩ : b = b' ∧ o = o' := by simpa using e'
   have hsl := fun W => slice_one b o N cap j (by omega) W
   have hcv : (convert 22 9 (.slice (some ⟨b, o + j, none⟩) 1 (cap - j))).run Tryz.prog wr = .ok (.string ⟨(u8s [x]).toArray⟩) wr := by
    have h := (hbr.dropL (k := j) (by rw [HH.out.2.2.2.2.2.1]; omega)).take 1
    rw [drop_at hx] at h
    exact conv_by h
   have e1 : IntKind.i64.wrap ((j : Int) + 1) = (j : Int) + 1 := IntWalk.i64_in _ (by omega)
   have hT := hI.hT
   rw [drop_at hx] at hT
   have hdl : N - (xs.drop (j + 1)).length = j + 1 := by rw [List.length_drop, HH.out.2.2.2.2.2.1]; omega
   have CLx := fun W => HH.out.2.2.1 W x hx256
   have hlx : lowL [x] = [lowN x] := rfl
   rw [hlx] at CLx
   obtain ⟨ST, hST⟩ : ∃ S : ByteArray, ⟨(u8s tn).toArray⟩ = S := ⟨_, rfl⟩
   have hc : Cells wr (w.heap.size + 1) 83 (tagCs kind ⟨(u8s tn).toArray⟩ (.slice Av nv cv)) := hI.hc
   rw [hST] at hc
   have hzn : (⟨(u8s nm).toArray⟩ : ByteArray).size ≤ j := str_size nm hI.l2
   have hzv : (⟨(u8s vl).toArray⟩ : ByteArray).size ≤ j := str_size vl hI.l3
   have hzt : ST.size ≤ j := by rw [← hST]; exact str_size tn hI.l4
   have hz1 : (⟨(u8s [x]).toArray⟩ : ByteArray).size = 1 := size_str _
   have hz2 : (⟨(u8s [lowN x]).toArray⟩ : ByteArray).size = 1 := size_str _
   have han := app_str nm [lowN x]
   have hav := app_str vl [x]
   have hatn := app_str tn [lowN x]
   rw [hST] at hatn
   obtain ⟨SN, hSN⟩ : ∃ S : ByteArray, ⟨(u8s nm).toArray⟩ = S := ⟨_, rfl⟩
   obtain ⟨SV, hSV⟩ : ∃ S : ByteArray, ⟨(u8s vl).toArray⟩ = S := ⟨_, rfl⟩
   obtain ⟨SX, hSX⟩ : ∃ S : ByteArray, ⟨(u8s [x]).toArray⟩ = S := ⟨_, rfl⟩
   obtain ⟨SL, hSL⟩ : ∃ S : ByteArray, ⟨(u8s [lowN x]).toArray⟩ = S := ⟨_, rfl⟩
   rw [hSN] at hzn han
   rw [hSV] at hzv hav
   rw [hSX] at hz1 hav hcv
   rw [hSX, hSL] at CLx
   rw [hSL] at hz2 han hatn
   rw [hSN, hSV]
   have HS := Lib.hid (And.intro hSN (And.intro hSV (And.intro hSX (And.intro hSL (And.intro han (And.intro hav hatn))))))
   have HST := Lib.hid hST
   have HC := Lib.hid hc
   have HCL := Lib.hid CLx
   have HT := Lib.hid hT
   have HI := Lib.hid hI
   have HD := Lib.hid (And.intro hdl (And.intro hx hx256))
   have CBx := Lib.hid (fun W => HH.out.2.1 W x)
   have HLQ := Lib.hid lq
   clear hSN hSV hSX hSL han hav hatn hST hc CLx hT hI hdl hx hx256 e' hbr hlx lq
   go_upto_region 13 with fail
   clear d0 hsl hcv e1 i1
   rcases (show st = 0 ∨ st = 1 ∨ st = 2 ∨ st = 3 ∨ st = 4 ∨ st = 5 ∨ st = 6 by omega) with rfl | rfl | rfl | rfl | rfl | rfl | rfl
   all_goals
    clear h6
    rename_i K0 a0 left0 K1 K2 K3 Q9 a1 a2 a3
    revert b o cap n kind xs w T Q N K0 wr sl tn nm vl q l0 j Av nv cv x ST SN SV SX SL K1 K2 K3 Q9 u14 u15 u16 u20 u21 u22 u23 u24 u25 u26 u27 u28 u29 u30 u31 u32 u33 u34 u35 u36 u37 u38 u39 u40 u41 u42 u43 u44 u45 u46 u47 u48 u49 u50 u51 u52 u53 u54 u55 u56 u57 u58 u59 u60 u61 u62 u63 u64 u65 u66 u67 u68 u69 u70 u71 u72 u73 u74 u75 u76 u77 u78 u79 u80 u81 u82 u83 u84 u85 u86 u87 u88 u89 u90 u91 u92 u93 u94 u95 u96 u97 u98 u99 u100 u101 u102 u103 u104 u105 u106 u107 u108 u109 u110 u111 u112 u113 u114 u115 u116 u117 u118 u119 u120 u121 u122 u123 u124 u125 u126 u127 u128 u129 u130 u131 u132 u133 u134 u135 u136 u137 u138 u139 u140 u141 u142 u143 u144 u145 u146 u147 u148 u149 u150 u151 u152 u153 u154 u155 u156 u157 u158 u159 u160 u161 u162 u163 u164 u165 u166 u167 u168 u169 u170 u171 u172 u173 u174 u175 u176 u177 u178 u179 u180 u181 u182 u183 u184 u185 u186 u187 u188 u189
   ·exact H0.out
   ·exact H1.out
   ·exact H2.out
   ·exact H3.out
   ·exact H4.out
   ·exact H5.out
   ·exact H6.out⟩
theorem refTag_s0 : refTag_parts.T0 := by
 intro b o cap n kind xs w T Q N hcap hlen hn HH K0 a0 wr
 iterate 173 intro _
 intro sl tn nm vl q l0 j Av nv cv hj z1 z0 hlt x left0 ST hzt SN hzn SV hzv SX hz1 SL hz2 HS HST HC HCL HD CBx HLQ K1 K2 K3 HT HI Q9 a1 a2 a3
 by_cases hB : blkB x = true
 case pos =>
  have hne := blk_not hB
  have b47 : ((x : Int) == 47) = false := by rw [beq_eq_false_iff_ne]; omega
  have b62 : ((x : Int) == 62) = false := by rw [beq_eq_false_iff_ne]; omega
  have b61 : ((x : Int) == 61) = false := by rw [beq_eq_false_iff_ne]; omega
  have b34 : ((x : Int) == 34) = false := by rw [beq_eq_false_iff_ne]; omega
  have b39 : ((x : Int) == 39) = false := by rw [beq_eq_false_iff_ne]; omega
  have hCB : ∀ W, Calls Tryz.prog 74 #[.int .u8 (x : Int)] W fun e w' => e = .returned (.bool true) ∧ w' = W := fun W => by have := CBx.out W; rw [hB] at this; exact this
  have hstep : refStep ⟨0, sl, tn, nm, vl, q, l0⟩ x = (⟨1, false, tn, nm, vl, q, l0⟩, false) := by simp [refStep, hB, hne]
  have hTn : refGo N kind ⟨1, false, tn, nm, vl, q, l0⟩ (xs.drop (j + 1)) = T := by rw [← HT.out, ref_on hstep]
  have HTn := Lib.hid hTn
  clear hstep hTn hne hB
  obtain ⟨hq3, hq2, hf3, hf2⟩ := tg4 HC.out
  have hrel6 : ∀ w6, RInv N kind xs T w ⟨0, sl, tn, nm, vl, q, l0⟩ j (.slice Av nv cv) w6 → RInv N kind xs T w ⟨1, false, tn, nm, vl, q, l0⟩ (j + 1) (.slice Av nv cv) w6 := fun w6 h6 => by
   refine ⟨by simp, by omega, h6.hc, h6.ho, ?_, ?_, ?_, ?_, HLQ.out, HTn.out, h6.hb, h6.hx⟩
   all_goals (have h1 := h6.l1; have h2 := h6.l2; have h3 := h6.l3; have h4 := h6.l4; dsimp only at h1 h2 h3 h4 ⊢; first | omega | (simp; omega) | simp)
  have HR := Lib.hid hrel6
  clear hrel6
  go_wp2_with (first | (go_at_call 74; refine (hCB _).mono ?_; rintro r w1 ⟨rfl, e37⟩; obtain rfl := e37.symm; clear e37) | fail)
  go_roundw
  case rel => exact ⟨_, j + 1, _, rfl, rfl, by rw [← HS.out.1], by rw [← HS.out.2.1], rfl, rfl, HR.out _ HI.out⟩
  case measure => simp [RowKit.intOf]; omega
 by_cases h47 : x = 47
 case pos =>
  subst h47
  have hbx : blkB 47 = false := rfl
  have hCB : ∀ W, Calls Tryz.prog 74 #[.int .u8 47] W fun e w' => e = .returned (.bool false) ∧ w' = W := fun W => CBx.out W
  have hstep : refStep ⟨0, sl, tn, nm, vl, q, l0⟩ 47 = (⟨1, true, tn, nm, vl, q, l0⟩, false) := by simp [refStep, blkB]
  have hTn : refGo N kind ⟨1, true, tn, nm, vl, q, l0⟩ (xs.drop (j + 1)) = T := by rw [← HT.out, ref_on hstep]
  have HTn := Lib.hid hTn
  clear hstep hTn hbx
  obtain ⟨hq3, hq2, hf3, hf2⟩ := tg4 HC.out
  have hrel6 : ∀ w6, RInv N kind xs T w ⟨0, sl, tn, nm, vl, q, l0⟩ j (.slice Av nv cv) w6 → RInv N kind xs T w ⟨1, true, tn, nm, vl, q, l0⟩ (j + 1) (.slice Av nv cv) w6 := fun w6 h6 => by
   refine ⟨by simp, by omega, h6.hc, h6.ho, ?_, ?_, ?_, ?_, HLQ.out, HTn.out, h6.hb, h6.hx⟩
   all_goals (have h1 := h6.l1; have h2 := h6.l2; have h3 := h6.l3; have h4 := h6.l4; dsimp only at h1 h2 h3 h4 ⊢; first | omega | (simp; omega) | simp)
  have HR := Lib.hid hrel6
  clear hrel6
  go_wp2_with (first | (go_at_call 74; refine (hCB _).mono ?_; rintro r w1 ⟨rfl, e37⟩; obtain rfl := e37.symm; clear e37) | fail)
  go_roundw
  case rel => exact ⟨_, j + 1, _, rfl, rfl, by rw [← HS.out.1], by rw [← HS.out.2.1], rfl, rfl, HR.out _ HI.out⟩
  case measure => simp [RowKit.intOf]; omega
 by_cases h62 : x = 62
 case pos =>
  subst h62
  have hbx : blkB 62 = false := rfl
  have hCB : ∀ W, Calls Tryz.prog 74 #[.int .u8 62] W fun e w' => e = .returned (.bool false) ∧ w' = W := fun W => CBx.out W
  have hstep : refStep ⟨0, sl, tn, nm, vl, q, l0⟩ 62 = (⟨1, false, tn, nm, vl, q, l0⟩, true) := by simp [refStep, blkB]
  have hTT : (⟨kind, j + 1, tn, l0, false, true⟩ : TG) = T := by rw [← HT.out, ref_end hstep, HD.out.1]
  have HTT := Lib.hid hTT
  clear hstep hTT hbx
  obtain ⟨hq3, hq2, hf3, hf2⟩ := tg4 HC.out
  have hI := HI.out
  have q0 := (HC.out).cell 0
  have fr0 := (HC.out).froz 0
  have s0 := (hI.hx).cell 0
  have t0 := (hI.hx).froz 0
  have q1 := (HC.out).cell 1
  have fr1 := (HC.out).froz 1
  have s1 := (hI.hx).cell 1
  have t1 := (hI.hx).froz 1
  have q2 := (HC.out).cell 2
  have fr2 := (HC.out).froz 2
  have s2 := (hI.hx).cell 2
  have t2 := (hI.hx).froz 2
  have q3 := (HC.out).cell 3
  have fr3 := (HC.out).froz 3
  have s3 := (hI.hx).cell 3
  have t3 := (hI.hx).froz 3
  have q4 := (HC.out).cell 4
  have fr4 := (HC.out).froz 4
  have s4 := (hI.hx).cell 4
  have t4 := (hI.hx).froz 4
  have q5 := (HC.out).cell 5
  have fr5 := (HC.out).froz 5
  have s5 := (hI.hx).cell 5
  have t5 := (hI.hx).froz 5
  simp [tagCs] at q0 q1 q2 q3 q4 q5 s0 s1 s2 s3 s4 s5
  have hoR : OwnR wr (w.heap.size + 1 + 1) l0 (.slice Av nv cv) := hI.ho
  have HF := Lib.hid (And.intro hoR hI.hb)
  clear hoR hI hq3 hq2 hf3 hf2
  go_wp2_with (first | (go_at_call 74; refine (hCB _).mono ?_; rintro r w1 ⟨rfl, e37⟩; obtain rfl := e37.symm; clear e37) | fail)
  refine bodyPost_ret (v := .agg #[.int .i64 (kind : Int), .int .i64 ((j : Int) + 1), .string ST, .slice Av nv cv, .bool false, .bool true]) ?_ rfl ?_
  ·simp [results, Tryz.results78, go_sem, s0, s1, s2, s3, s4, s5]
  ·have h := HH.out.2.2.2.1 _ (.slice Av nv cv) _ HTT.out (((((((((HF.out.1.set (j := w.heap.size + 1) (by omega) 1 (.int .i64 ((j : Int) + 1))).set (j := w.heap.size + 1) (by omega) 5 (.bool true)).set (j := w.heap.size + 1) (by omega) 4 (.bool false)).set (j := w.heap.size) (by omega) 0 (.int .i64 (kind : Int))).set (j := w.heap.size) (by omega) 1 (.int .i64 ((j : Int) + 1))).set (j := w.heap.size) (by omega) 2 (.string ST)).set (j := w.heap.size) (by omega) 3 (.slice Av nv cv)).set (j := w.heap.size) (by omega) 4 (.bool false)).set (j := w.heap.size) (by omega) 5 (.bool true)) (((((((((HF.out.2.setc (j := w.heap.size + 1) (by omega) 1 (.int .i64 ((j : Int) + 1))).setc (j := w.heap.size + 1) (by omega) 5 (.bool true)).setc (j := w.heap.size + 1) (by omega) 4 (.bool false)).setc (j := w.heap.size) (by omega) 0 (.int .i64 (kind : Int))).setc (j := w.heap.size) (by omega) 1 (.int .i64 ((j : Int) + 1))).setc (j := w.heap.size) (by omega) 2 (.string ST)).setc (j := w.heap.size) (by omega) 3 (.slice Av nv cv)).setc (j := w.heap.size) (by omega) 4 (.bool false)).setc (j := w.heap.size) (by omega) 5 (.bool true))
   unfold tagV strV at h
   dsimp only at h
   rw [HST.out] at h
   exact h
 have hBf : blkB x = false := by simpa using hB
 have hCB : ∀ W, Calls Tryz.prog 74 #[.int .u8 (x : Int)] W fun e w' => e = .returned (.bool false) ∧ w' = W := fun W => by have := CBx.out W; rw [hBf] at this; exact this
 have b62 : ((x : Int) == 62) = false := by rw [beq_eq_false_iff_ne]; omega
 have n62 : ((x : Int) != 62) = true := by rw [bne_iff_ne]; omega
 have b47 : ((x : Int) == 47) = false := by rw [beq_eq_false_iff_ne]; omega
 have n47 : ((x : Int) != 47) = true := by rw [bne_iff_ne]; omega
 have hstep : refStep ⟨0, sl, tn, nm, vl, q, l0⟩ x = (⟨0, sl, (tn ++ [lowN x]), nm, vl, q, l0⟩, false) := by simp [refStep, hBf, h62, h47]
 have hTn : refGo N kind ⟨0, sl, (tn ++ [lowN x]), nm, vl, q, l0⟩ (xs.drop (j + 1)) = T := by rw [← HT.out, ref_on hstep]
 have HTn := Lib.hid hTn
 clear hstep hTn hBf
 obtain ⟨hq3, hq2, hf3, hf2⟩ := tg4 HC.out
 go_wp2_with (first | (go_at_call 74; refine (hCB _).mono ?_; rintro r w1 ⟨rfl, e37⟩; obtain rfl := e37.symm; clear e37) | fail)
 go_region_with (first
  | (go_at_call 73; refine (HCL.out _).mono ?_; rintro r w6 ⟨rfl, hb6⟩; have hb6' : Below wr.heap.size wr w6 := (Below.refl _ _).drew.trans hb6; have hI6 := HI.out.on hb6'; have hc6 : Cells w6 (w.heap.size + 1) 83 (tagCs kind ST (.slice Av nv cv)) := HC.out.on hb6'; have hq6 := hc6.cell 2; have hf6 := hc6.froz 2; have hg6 := hc6.lt; simp [tagCs] at hq6; have HI6 := Lib.hid (And.intro hI6 hc6); clear hb6 hb6' hI6 hc6))
 all_goals
  have hrel6 : RInv N kind xs T w ⟨0, sl, (tn ++ [lowN x]), nm, vl, q, l0⟩ (j + 1) (.slice Av nv cv) (w6.setCell ⟨w.heap.size + 1, 2, none⟩ (.string (ST ++ SL))) := by
   refine ⟨by simp, by omega, ?_, HI6.out.1.ho.set (by omega) 2 _, ?_, ?_, ?_, ?_, HLQ.out, HTn.out, HI6.out.1.hb.setc (by omega) 2 _, (Fz.set (X := (· = w.heap.size + 1)) _ _ _ _ rfl).cells (by omega) HI6.out.1.hx⟩
   ·have h := HI6.out.2.set 2 (.string (ST ++ SL))
    rw [HS.out.2.2.2.2.2.2] at h ⊢
    exact h
   ·have h : l0.length ≤ j := HI6.out.1.l1
    show l0.length ≤ j + 1
    omega
   ·have h : nm.length ≤ j := HI6.out.1.l2
    show nm.length ≤ j + 1
    omega
   ·have h : vl.length ≤ j := HI6.out.1.l3
    show vl.length ≤ j + 1
    omega
   ·have h : tn.length ≤ j := HI6.out.1.l4
    simp
    omega
  have HR := Lib.hid hrel6
  clear hrel6
  go_wp2_with fail
  go_roundw
  case rel => exact ⟨_, j + 1, _, rfl, rfl, by rw [← HS.out.1], by rw [← HS.out.2.1], rfl, rfl, HR.out⟩
  case measure => simp [RowKit.intOf]; omega
theorem refTag_s1 : refTag_parts.T1 := by
 intro b o cap n kind xs w T Q N hcap hlen hn HH K0 a0 wr
 iterate 173 intro _
 intro sl tn nm vl q l0 j Av nv cv hj z1 z0 hlt x left0 ST hzt SN hzn SV hzv SX hz1 SL hz2 HS HST HC HCL HD CBx HLQ K1 K2 K3 HT HI Q9 a1 a2 a3
 by_cases h62 : x = 62
 case pos =>
  subst h62
  have hbx : blkB 62 = false := rfl
  have hCB : ∀ W, Calls Tryz.prog 74 #[.int .u8 62] W fun e w' => e = .returned (.bool false) ∧ w' = W := fun W => CBx.out W
  have hstep : refStep ⟨1, sl, tn, nm, vl, q, l0⟩ 62 = (⟨1, sl, tn, nm, vl, q, l0⟩, true) := by simp [refStep]
  have hTT : (⟨kind, j + 1, tn, l0, sl, true⟩ : TG) = T := by rw [← HT.out, ref_end hstep, HD.out.1]
  have HTT := Lib.hid hTT
  clear hstep hTT hbx
  obtain ⟨hq3, hq2, hf3, hf2⟩ := tg4 HC.out
  have hI := HI.out
  have q0 := (HC.out).cell 0
  have fr0 := (HC.out).froz 0
  have s0 := (hI.hx).cell 0
  have t0 := (hI.hx).froz 0
  have q1 := (HC.out).cell 1
  have fr1 := (HC.out).froz 1
  have s1 := (hI.hx).cell 1
  have t1 := (hI.hx).froz 1
  have q2 := (HC.out).cell 2
  have fr2 := (HC.out).froz 2
  have s2 := (hI.hx).cell 2
  have t2 := (hI.hx).froz 2
  have q3 := (HC.out).cell 3
  have fr3 := (HC.out).froz 3
  have s3 := (hI.hx).cell 3
  have t3 := (hI.hx).froz 3
  have q4 := (HC.out).cell 4
  have fr4 := (HC.out).froz 4
  have s4 := (hI.hx).cell 4
  have t4 := (hI.hx).froz 4
  have q5 := (HC.out).cell 5
  have fr5 := (HC.out).froz 5
  have s5 := (hI.hx).cell 5
  have t5 := (hI.hx).froz 5
  simp [tagCs] at q0 q1 q2 q3 q4 q5 s0 s1 s2 s3 s4 s5
  have hoR : OwnR wr (w.heap.size + 1 + 1) l0 (.slice Av nv cv) := hI.ho
  have HF := Lib.hid (And.intro hoR hI.hb)
  clear hoR hI hq3 hq2 hf3 hf2
  go_wp2_with (first | (go_at_call 74; refine (hCB _).mono ?_; rintro r w1 ⟨rfl, e37⟩; obtain rfl := e37.symm; clear e37) | fail)
  refine bodyPost_ret (v := .agg #[.int .i64 (kind : Int), .int .i64 ((j : Int) + 1), .string ST, .slice Av nv cv, .bool sl, .bool true]) ?_ rfl ?_
  ·simp [results, Tryz.results78, go_sem, s0, s1, s2, s3, s4, s5]
  ·have h := HH.out.2.2.2.1 _ (.slice Av nv cv) _ HTT.out (((((((((HF.out.1.set (j := w.heap.size + 1) (by omega) 1 (.int .i64 ((j : Int) + 1))).set (j := w.heap.size + 1) (by omega) 5 (.bool true)).set (j := w.heap.size + 1) (by omega) 4 (.bool sl)).set (j := w.heap.size) (by omega) 0 (.int .i64 (kind : Int))).set (j := w.heap.size) (by omega) 1 (.int .i64 ((j : Int) + 1))).set (j := w.heap.size) (by omega) 2 (.string ST)).set (j := w.heap.size) (by omega) 3 (.slice Av nv cv)).set (j := w.heap.size) (by omega) 4 (.bool sl)).set (j := w.heap.size) (by omega) 5 (.bool true)) (((((((((HF.out.2.setc (j := w.heap.size + 1) (by omega) 1 (.int .i64 ((j : Int) + 1))).setc (j := w.heap.size + 1) (by omega) 5 (.bool true)).setc (j := w.heap.size + 1) (by omega) 4 (.bool sl)).setc (j := w.heap.size) (by omega) 0 (.int .i64 (kind : Int))).setc (j := w.heap.size) (by omega) 1 (.int .i64 ((j : Int) + 1))).setc (j := w.heap.size) (by omega) 2 (.string ST)).setc (j := w.heap.size) (by omega) 3 (.slice Av nv cv)).setc (j := w.heap.size) (by omega) 4 (.bool sl)).setc (j := w.heap.size) (by omega) 5 (.bool true))
   unfold tagV strV at h
   dsimp only at h
   rw [HST.out] at h
   exact h
 by_cases hB : blkB x = true
 case pos =>
  have hne := blk_not hB
  have b47 : ((x : Int) == 47) = false := by rw [beq_eq_false_iff_ne]; omega
  have b62 : ((x : Int) == 62) = false := by rw [beq_eq_false_iff_ne]; omega
  have b61 : ((x : Int) == 61) = false := by rw [beq_eq_false_iff_ne]; omega
  have b34 : ((x : Int) == 34) = false := by rw [beq_eq_false_iff_ne]; omega
  have b39 : ((x : Int) == 39) = false := by rw [beq_eq_false_iff_ne]; omega
  have hCB : ∀ W, Calls Tryz.prog 74 #[.int .u8 (x : Int)] W fun e w' => e = .returned (.bool true) ∧ w' = W := fun W => by have := CBx.out W; rw [hB] at this; exact this
  have hstep : refStep ⟨1, sl, tn, nm, vl, q, l0⟩ x = (⟨1, false, tn, nm, vl, q, l0⟩, false) := by simp [refStep, hB, hne]
  have hTn : refGo N kind ⟨1, false, tn, nm, vl, q, l0⟩ (xs.drop (j + 1)) = T := by rw [← HT.out, ref_on hstep]
  have HTn := Lib.hid hTn
  clear hstep hTn hne hB
  obtain ⟨hq3, hq2, hf3, hf2⟩ := tg4 HC.out
  have hrel6 : ∀ w6, RInv N kind xs T w ⟨1, sl, tn, nm, vl, q, l0⟩ j (.slice Av nv cv) w6 → RInv N kind xs T w ⟨1, false, tn, nm, vl, q, l0⟩ (j + 1) (.slice Av nv cv) w6 := fun w6 h6 => by
   refine ⟨by simp, by omega, h6.hc, h6.ho, ?_, ?_, ?_, ?_, HLQ.out, HTn.out, h6.hb, h6.hx⟩
   all_goals (have h1 := h6.l1; have h2 := h6.l2; have h3 := h6.l3; have h4 := h6.l4; dsimp only at h1 h2 h3 h4 ⊢; first | omega | (simp; omega) | simp)
  have HR := Lib.hid hrel6
  clear hrel6
  go_wp2_with (first | (go_at_call 74; refine (hCB _).mono ?_; rintro r w1 ⟨rfl, e37⟩; obtain rfl := e37.symm; clear e37) | fail)
  go_roundw
  case rel => exact ⟨_, j + 1, _, rfl, rfl, by rw [← HS.out.1], by rw [← HS.out.2.1], rfl, rfl, HR.out _ HI.out⟩
  case measure => simp [RowKit.intOf]; omega
 by_cases h47 : x = 47
 case pos =>
  subst h47
  have hbx : blkB 47 = false := rfl
  have hCB : ∀ W, Calls Tryz.prog 74 #[.int .u8 47] W fun e w' => e = .returned (.bool false) ∧ w' = W := fun W => CBx.out W
  have hstep : refStep ⟨1, sl, tn, nm, vl, q, l0⟩ 47 = (⟨1, true, tn, nm, vl, q, l0⟩, false) := by simp [refStep, blkB]
  have hTn : refGo N kind ⟨1, true, tn, nm, vl, q, l0⟩ (xs.drop (j + 1)) = T := by rw [← HT.out, ref_on hstep]
  have HTn := Lib.hid hTn
  clear hstep hTn hbx
  obtain ⟨hq3, hq2, hf3, hf2⟩ := tg4 HC.out
  have hrel6 : ∀ w6, RInv N kind xs T w ⟨1, sl, tn, nm, vl, q, l0⟩ j (.slice Av nv cv) w6 → RInv N kind xs T w ⟨1, true, tn, nm, vl, q, l0⟩ (j + 1) (.slice Av nv cv) w6 := fun w6 h6 => by
   refine ⟨by simp, by omega, h6.hc, h6.ho, ?_, ?_, ?_, ?_, HLQ.out, HTn.out, h6.hb, h6.hx⟩
   all_goals (have h1 := h6.l1; have h2 := h6.l2; have h3 := h6.l3; have h4 := h6.l4; dsimp only at h1 h2 h3 h4 ⊢; first | omega | (simp; omega) | simp)
  have HR := Lib.hid hrel6
  clear hrel6
  go_wp2_with (first | (go_at_call 74; refine (hCB _).mono ?_; rintro r w1 ⟨rfl, e37⟩; obtain rfl := e37.symm; clear e37) | fail)
  go_roundw
  case rel => exact ⟨_, j + 1, _, rfl, rfl, by rw [← HS.out.1], by rw [← HS.out.2.1], rfl, rfl, HR.out _ HI.out⟩
  case measure => simp [RowKit.intOf]; omega
 have hBf : blkB x = false := by simpa using hB
 have hCB : ∀ W, Calls Tryz.prog 74 #[.int .u8 (x : Int)] W fun e w' => e = .returned (.bool false) ∧ w' = W := fun W => by have := CBx.out W; rw [hBf] at this; exact this
 have b62 : ((x : Int) == 62) = false := by rw [beq_eq_false_iff_ne]; omega
 have n62 : ((x : Int) != 62) = true := by rw [bne_iff_ne]; omega
 have b47 : ((x : Int) == 47) = false := by rw [beq_eq_false_iff_ne]; omega
 have n47 : ((x : Int) != 47) = true := by rw [bne_iff_ne]; omega
 have hstep : refStep ⟨1, sl, tn, nm, vl, q, l0⟩ x = (⟨2, sl, tn, [lowN x], [], q, l0⟩, false) := by simp [refStep, hBf, h62, h47]
 have hTn : refGo N kind ⟨2, sl, tn, [lowN x], [], q, l0⟩ (xs.drop (j + 1)) = T := by rw [← HT.out, ref_on hstep]
 have HTn := Lib.hid hTn
 clear hstep hTn hBf
 obtain ⟨hq3, hq2, hf3, hf2⟩ := tg4 HC.out
 have hrel6 : ∀ w6, RInv N kind xs T w ⟨1, sl, tn, nm, vl, q, l0⟩ j (.slice Av nv cv) w6 → RInv N kind xs T w ⟨2, sl, tn, [lowN x], [], q, l0⟩ (j + 1) (.slice Av nv cv) w6 := fun w6 h6 => by
  refine ⟨by simp, by omega, h6.hc, h6.ho, ?_, ?_, ?_, ?_, HLQ.out, HTn.out, h6.hb, h6.hx⟩
  all_goals (have h1 := h6.l1; have h2 := h6.l2; have h3 := h6.l3; have h4 := h6.l4; dsimp only at h1 h2 h3 h4 ⊢; first | omega | (simp; omega) | simp)
 have HR := Lib.hid hrel6
 clear hrel6
 go_wp2_with (first | (go_at_call 74; refine (hCB _).mono ?_; rintro r w1 ⟨rfl, e37⟩; obtain rfl := e37.symm; clear e37) | (go_at_call 73; refine (HCL.out _).mono ?_; rintro r w6 ⟨rfl, hb6⟩) | fail)
 have HM := Lib.hid (HI.out.on hb6)
 clear hb6
 go_wp2_with fail
 go_roundw
 case rel => exact ⟨_, j + 1, _, rfl, rfl, by rw [← HS.out.2.2.2.1], by rfl, rfl, rfl, HR.out _ HM.out⟩
 case measure => simp [RowKit.intOf]; omega
theorem refTag_s2 : refTag_parts.T2 := by
 intro b o cap n kind xs w T Q N hcap hlen hn HH K0 a0 wr
 iterate 173 intro _
 intro sl tn nm vl q l0 j Av nv cv hj z1 z0 hlt x left0 ST hzt SN hzn SV hzv SX hz1 SL hz2 HS HST HC HCL HD CBx HLQ K1 K2 K3 HT HI Q9 a1 a2 a3
 by_cases h61 : x = 61
 case pos =>
  subst h61
  have hbx : blkB 61 = false := rfl
  have hCB : ∀ W, Calls Tryz.prog 74 #[.int .u8 61] W fun e w' => e = .returned (.bool false) ∧ w' = W := fun W => CBx.out W
  have hstep : refStep ⟨2, sl, tn, nm, vl, q, l0⟩ 61 = (⟨4, sl, tn, nm, vl, q, l0⟩, false) := by simp [refStep]
  have hTn : refGo N kind ⟨4, sl, tn, nm, vl, q, l0⟩ (xs.drop (j + 1)) = T := by rw [← HT.out, ref_on hstep]
  have HTn := Lib.hid hTn
  clear hstep hTn hbx
  obtain ⟨hq3, hq2, hf3, hf2⟩ := tg4 HC.out
  have hrel6 : ∀ w6, RInv N kind xs T w ⟨2, sl, tn, nm, vl, q, l0⟩ j (.slice Av nv cv) w6 → RInv N kind xs T w ⟨4, sl, tn, nm, vl, q, l0⟩ (j + 1) (.slice Av nv cv) w6 := fun w6 h6 => by
   refine ⟨by simp, by omega, h6.hc, h6.ho, ?_, ?_, ?_, ?_, HLQ.out, HTn.out, h6.hb, h6.hx⟩
   all_goals (have h1 := h6.l1; have h2 := h6.l2; have h3 := h6.l3; have h4 := h6.l4; dsimp only at h1 h2 h3 h4 ⊢; first | omega | (simp; omega) | simp)
  have HR := Lib.hid hrel6
  clear hrel6
  go_wp2_with (first | (go_at_call 74; refine (hCB _).mono ?_; rintro r w1 ⟨rfl, e37⟩; obtain rfl := e37.symm; clear e37) | fail)
  go_roundw
  case rel => exact ⟨_, j + 1, _, rfl, rfl, by rw [← HS.out.1], by rw [← HS.out.2.1], rfl, rfl, HR.out _ HI.out⟩
  case measure => simp [RowKit.intOf]; omega
 by_cases hB : blkB x = true
 case pos =>
  have hne := blk_not hB
  have b47 : ((x : Int) == 47) = false := by rw [beq_eq_false_iff_ne]; omega
  have b62 : ((x : Int) == 62) = false := by rw [beq_eq_false_iff_ne]; omega
  have b61 : ((x : Int) == 61) = false := by rw [beq_eq_false_iff_ne]; omega
  have b34 : ((x : Int) == 34) = false := by rw [beq_eq_false_iff_ne]; omega
  have b39 : ((x : Int) == 39) = false := by rw [beq_eq_false_iff_ne]; omega
  have hCB : ∀ W, Calls Tryz.prog 74 #[.int .u8 (x : Int)] W fun e w' => e = .returned (.bool true) ∧ w' = W := fun W => by have := CBx.out W; rw [hB] at this; exact this
  have hstep : refStep ⟨2, sl, tn, nm, vl, q, l0⟩ x = (⟨3, sl, tn, nm, vl, q, l0⟩, false) := by simp [refStep, hB, hne]
  have hTn : refGo N kind ⟨3, sl, tn, nm, vl, q, l0⟩ (xs.drop (j + 1)) = T := by rw [← HT.out, ref_on hstep]
  have HTn := Lib.hid hTn
  clear hstep hTn hne hB
  obtain ⟨hq3, hq2, hf3, hf2⟩ := tg4 HC.out
  have hrel6 : ∀ w6, RInv N kind xs T w ⟨2, sl, tn, nm, vl, q, l0⟩ j (.slice Av nv cv) w6 → RInv N kind xs T w ⟨3, sl, tn, nm, vl, q, l0⟩ (j + 1) (.slice Av nv cv) w6 := fun w6 h6 => by
   refine ⟨by simp, by omega, h6.hc, h6.ho, ?_, ?_, ?_, ?_, HLQ.out, HTn.out, h6.hb, h6.hx⟩
   all_goals (have h1 := h6.l1; have h2 := h6.l2; have h3 := h6.l3; have h4 := h6.l4; dsimp only at h1 h2 h3 h4 ⊢; first | omega | (simp; omega) | simp)
  have HR := Lib.hid hrel6
  clear hrel6
  go_wp2_with (first | (go_at_call 74; refine (hCB _).mono ?_; rintro r w1 ⟨rfl, e37⟩; obtain rfl := e37.symm; clear e37) | fail)
  go_roundw
  case rel => exact ⟨_, j + 1, _, rfl, rfl, by rw [← HS.out.1], by rw [← HS.out.2.1], rfl, rfl, HR.out _ HI.out⟩
  case measure => simp [RowKit.intOf]; omega
 by_cases h47 : x = 47
 case pos =>
  subst h47
  have hbx : blkB 47 = false := rfl
  have hCB : ∀ W, Calls Tryz.prog 74 #[.int .u8 47] W fun e w' => e = .returned (.bool false) ∧ w' = W := fun W => CBx.out W
  have hstep : refStep ⟨2, sl, tn, nm, vl, q, l0⟩ 47 = (⟨1, true, tn, nm, vl, q, (l0 ++ [(nm, [])])⟩, false) := by simp [refStep, blkB]
  have hTn : refGo N kind ⟨1, true, tn, nm, vl, q, (l0 ++ [(nm, [])])⟩ (xs.drop (j + 1)) = T := by rw [← HT.out, ref_on hstep]
  have HTn := Lib.hid hTn
  clear hstep hTn hbx
  obtain ⟨hq3, hq2, hf3, hf2⟩ := tg4 HC.out
  have hI := HI.out
  have hoR : OwnR wr (w.heap.size + 1 + 1) l0 (.slice Av nv cv) := hI.ho
  have hll : l0.length ≤ 1000000 := by have h1 : l0.length ≤ j := hI.l1; have h2 := HH.out.2.2.2.2.2.2; omega
  have hw0 : wr.alloc (.cells #[strV ((nm, []) : AT).1, strV ((nm, []) : AT).2] 147) = wr.alloc (.cells #[.string SN, .string ⟨#[]⟩] 147) := by
   unfold strV
   dsimp only
   rw [HS.out.1]
   rfl
  have HA := Lib.hid (And.intro hoR (And.intro hll (And.intro hI hw0)))
  clear hoR hll hI hw0
  go_wp2_with (first
   | (at_builtin; refine wpList_appR rfl (.tmp 92) (.tmp 95) rfl (w.heap.size + 1 + 1) _ l0 ((nm, []) : AT) rfl wr HA.out.1 HA.out.2.2.2 rfl HA.out.2.1 (by omega) ?_)
   | (go_at_call 74; refine (hCB _).mono ?_; rintro r w1 ⟨rfl, e37⟩; obtain rfl := e37.symm; clear e37)
   | fail)
  intro g5 cp5 w5 ho5 hb5
  obtain ⟨hw5, hc5, hx5⟩ := tg5 HA.out.2.2.1 hb5 HC.out
  clear hb5 hq3 hq2 hf3 hf2
  have hq3 := hc5.cell 3
  have hf3 := hc5.froz 3
  have hg5 := hc5.lt
  simp [tagCs] at hq3
  have hrel5 : RInv N kind xs T w ⟨1, true, tn, nm, vl, q, (l0 ++ [(nm, [])])⟩ (j + 1) (.slice (some ⟨g5, 0, none⟩) (l0.length + 1) cp5) (w5.setCell ⟨w.heap.size + 1, 3, none⟩ (.slice (some ⟨g5, 0, none⟩) (l0.length + 1) cp5)) := by
   refine ⟨by simp, by omega, ?_, ho5.set (by omega) 3 _, ?_, ?_, ?_, ?_, HLQ.out, HTn.out, hw5.setc (by omega) 3 _, (Fz.set (X := (· = w.heap.size + 1)) _ _ _ _ rfl).cells (by omega) hx5⟩
   ·have h := hc5.set 3 (.slice (some ⟨g5, 0, none⟩) (l0.length + 1) cp5)
    rw [← HST.out] at h
    exact h
   ·have h : l0.length ≤ j := HA.out.2.2.1.l1
    simp
    omega
   ·have h : nm.length ≤ j := HA.out.2.2.1.l2
    simp
    try omega
   ·have h : vl.length ≤ j := HA.out.2.2.1.l3
    simp
    try omega
   ·have h : tn.length ≤ j := HA.out.2.2.1.l4
    show tn.length ≤ j + 1
    omega
  have HR := Lib.hid hrel5
  clear hrel5 ho5 hw5 hc5 hx5
  go_wp2_with fail
  go_roundw
  case rel => exact ⟨_, j + 1, _, rfl, rfl, by rw [← HS.out.1], by rw [← HS.out.2.1], rfl, rfl, HR.out⟩
  case measure => simp [RowKit.intOf]; omega
 by_cases h62 : x = 62
 case pos =>
  subst h62
  have hbx : blkB 62 = false := rfl
  have hCB : ∀ W, Calls Tryz.prog 74 #[.int .u8 62] W fun e w' => e = .returned (.bool false) ∧ w' = W := fun W => CBx.out W
  have hstep : refStep ⟨2, sl, tn, nm, vl, q, l0⟩ 62 = (⟨1, false, tn, nm, vl, q, (l0 ++ [(nm, [])])⟩, true) := by simp [refStep, blkB]
  have hTT : (⟨kind, j + 1, tn, l0 ++ [(nm, [])], false, true⟩ : TG) = T := by rw [← HT.out, ref_end hstep, HD.out.1]
  have HTT := Lib.hid hTT
  clear hstep hTT hbx
  obtain ⟨hq3, hq2, hf3, hf2⟩ := tg4 HC.out
  have hI := HI.out
  have hoR : OwnR wr (w.heap.size + 1 + 1) l0 (.slice Av nv cv) := hI.ho
  have hll : l0.length ≤ 1000000 := by have h1 : l0.length ≤ j := hI.l1; have h2 := HH.out.2.2.2.2.2.2; omega
  have hw0 : wr.alloc (.cells #[strV ((nm, []) : AT).1, strV ((nm, []) : AT).2] 147) = wr.alloc (.cells #[.string SN, .string ⟨#[]⟩] 147) := by
   unfold strV
   dsimp only
   rw [HS.out.1]
   rfl
  have HA := Lib.hid (And.intro hoR (And.intro hll (And.intro hI hw0)))
  clear hoR hll hI hw0
  go_wp2_with (first
   | (at_builtin; refine wpList_appR rfl (.tmp 92) (.tmp 95) rfl (w.heap.size + 1 + 1) _ l0 ((nm, []) : AT) rfl wr HA.out.1 HA.out.2.2.2 rfl HA.out.2.1 (by omega) ?_)
   | (go_at_call 74; refine (hCB _).mono ?_; rintro r w1 ⟨rfl, e37⟩; obtain rfl := e37.symm; clear e37)
   | fail)
  intro g5 cp5 w5 ho5 hb5
  obtain ⟨hw5, hc5, hx5⟩ := tg5 HA.out.2.2.1 hb5 HC.out
  clear hb5 hq3 hq2 hf3 hf2
  have q0 := (hc5).cell 0
  have fr0 := (hc5).froz 0
  have s0 := (hx5).cell 0
  have t0 := (hx5).froz 0
  have q1 := (hc5).cell 1
  have fr1 := (hc5).froz 1
  have s1 := (hx5).cell 1
  have t1 := (hx5).froz 1
  have q2 := (hc5).cell 2
  have fr2 := (hc5).froz 2
  have s2 := (hx5).cell 2
  have t2 := (hx5).froz 2
  have q3 := (hc5).cell 3
  have fr3 := (hc5).froz 3
  have s3 := (hx5).cell 3
  have t3 := (hx5).froz 3
  have q4 := (hc5).cell 4
  have fr4 := (hc5).froz 4
  have s4 := (hx5).cell 4
  have t4 := (hx5).froz 4
  have q5 := (hc5).cell 5
  have fr5 := (hc5).froz 5
  have s5 := (hx5).cell 5
  have t5 := (hx5).froz 5
  simp [tagCs] at q0 q1 q2 q3 q4 q5 s0 s1 s2 s3 s4 s5
  have ho6 := ho5.set (j := w.heap.size + 1) (by omega) 3 (.slice (some ⟨g5, 0, none⟩) (l0.length + 1) cp5)
  have hb6 := hw5.setc (j := w.heap.size + 1) (by omega) 3 (.slice (some ⟨g5, 0, none⟩) (l0.length + 1) cp5)
  have HF := Lib.hid (And.intro ho6 hb6)
  clear ho5 hw5 hc5 hx5 ho6 hb6
  go_wp2_with fail
  refine bodyPost_ret (v := .agg #[.int .i64 (kind : Int), .int .i64 ((j : Int) + 1), .string ST, .slice (some ⟨g5, 0, none⟩) (l0.length + 1) cp5, .bool false, .bool true]) ?_ rfl ?_
  ·simp [results, Tryz.results78, go_sem, s0, s1, s2, s3, s4, s5]
  ·have h := HH.out.2.2.2.1 _ (.slice (some ⟨g5, 0, none⟩) (l0.length + 1) cp5) _ HTT.out (((((((((HF.out.1.set (j := w.heap.size + 1) (by omega) 1 (.int .i64 ((j : Int) + 1))).set (j := w.heap.size + 1) (by omega) 5 (.bool true)).set (j := w.heap.size + 1) (by omega) 4 (.bool false)).set (j := w.heap.size) (by omega) 0 (.int .i64 (kind : Int))).set (j := w.heap.size) (by omega) 1 (.int .i64 ((j : Int) + 1))).set (j := w.heap.size) (by omega) 2 (.string ST)).set (j := w.heap.size) (by omega) 3 (.slice (some ⟨g5, 0, none⟩) (l0.length + 1) cp5)).set (j := w.heap.size) (by omega) 4 (.bool false)).set (j := w.heap.size) (by omega) 5 (.bool true)) (((((((((HF.out.2.setc (j := w.heap.size + 1) (by omega) 1 (.int .i64 ((j : Int) + 1))).setc (j := w.heap.size + 1) (by omega) 5 (.bool true)).setc (j := w.heap.size + 1) (by omega) 4 (.bool false)).setc (j := w.heap.size) (by omega) 0 (.int .i64 (kind : Int))).setc (j := w.heap.size) (by omega) 1 (.int .i64 ((j : Int) + 1))).setc (j := w.heap.size) (by omega) 2 (.string ST)).setc (j := w.heap.size) (by omega) 3 (.slice (some ⟨g5, 0, none⟩) (l0.length + 1) cp5)).setc (j := w.heap.size) (by omega) 4 (.bool false)).setc (j := w.heap.size) (by omega) 5 (.bool true))
   unfold tagV strV at h
   dsimp only at h
   rw [HST.out] at h
   exact h
 have hBf : blkB x = false := by simpa using hB
 have hCB : ∀ W, Calls Tryz.prog 74 #[.int .u8 (x : Int)] W fun e w' => e = .returned (.bool false) ∧ w' = W := fun W => by have := CBx.out W; rw [hBf] at this; exact this
 have b62 : ((x : Int) == 62) = false := by rw [beq_eq_false_iff_ne]; omega
 have n62 : ((x : Int) != 62) = true := by rw [bne_iff_ne]; omega
 have b47 : ((x : Int) == 47) = false := by rw [beq_eq_false_iff_ne]; omega
 have n47 : ((x : Int) != 47) = true := by rw [bne_iff_ne]; omega
 have b61 : ((x : Int) == 61) = false := by rw [beq_eq_false_iff_ne]; omega
 have hstep : refStep ⟨2, sl, tn, nm, vl, q, l0⟩ x = (⟨2, sl, tn, (nm ++ [lowN x]), vl, q, l0⟩, false) := by simp [refStep, hBf, h62, h47, h61]
 have hTn : refGo N kind ⟨2, sl, tn, (nm ++ [lowN x]), vl, q, l0⟩ (xs.drop (j + 1)) = T := by rw [← HT.out, ref_on hstep]
 have HTn := Lib.hid hTn
 clear hstep hTn hBf
 obtain ⟨hq3, hq2, hf3, hf2⟩ := tg4 HC.out
 have hrel6 : ∀ w6, RInv N kind xs T w ⟨2, sl, tn, nm, vl, q, l0⟩ j (.slice Av nv cv) w6 → RInv N kind xs T w ⟨2, sl, tn, (nm ++ [lowN x]), vl, q, l0⟩ (j + 1) (.slice Av nv cv) w6 := fun w6 h6 => by
  refine ⟨by simp, by omega, h6.hc, h6.ho, ?_, ?_, ?_, ?_, HLQ.out, HTn.out, h6.hb, h6.hx⟩
  all_goals (have h1 := h6.l1; have h2 := h6.l2; have h3 := h6.l3; have h4 := h6.l4; dsimp only at h1 h2 h3 h4 ⊢; first | omega | (simp; omega) | simp)
 have HR := Lib.hid hrel6
 clear hrel6
 go_wp2_with (first | (go_at_call 74; refine (hCB _).mono ?_; rintro r w1 ⟨rfl, e37⟩; obtain rfl := e37.symm; clear e37) | (go_at_call 73; refine (HCL.out _).mono ?_; rintro r w6 ⟨rfl, hb6⟩) | fail)
 have HM := Lib.hid (HI.out.on hb6)
 clear hb6
 go_wp2_with fail
 go_roundw
 case rel => exact ⟨_, j + 1, _, rfl, rfl, by rw [HS.out.2.2.2.2.1], by rw [← HS.out.2.1], rfl, rfl, HR.out _ HM.out⟩
 case measure => simp [RowKit.intOf]; omega
theorem refTag_s3 : refTag_parts.T3 := by
 intro b o cap n kind xs w T Q N hcap hlen hn HH K0 a0 wr
 iterate 173 intro _
 intro sl tn nm vl q l0 j Av nv cv hj z1 z0 hlt x left0 ST hzt SN hzn SV hzv SX hz1 SL hz2 HS HST HC HCL HD CBx HLQ K1 K2 K3 HT HI Q9 a1 a2 a3
 by_cases hB : blkB x = true
 case pos =>
  have hne := blk_not hB
  have b47 : ((x : Int) == 47) = false := by rw [beq_eq_false_iff_ne]; omega
  have b62 : ((x : Int) == 62) = false := by rw [beq_eq_false_iff_ne]; omega
  have b61 : ((x : Int) == 61) = false := by rw [beq_eq_false_iff_ne]; omega
  have b34 : ((x : Int) == 34) = false := by rw [beq_eq_false_iff_ne]; omega
  have b39 : ((x : Int) == 39) = false := by rw [beq_eq_false_iff_ne]; omega
  have hCB : ∀ W, Calls Tryz.prog 74 #[.int .u8 (x : Int)] W fun e w' => e = .returned (.bool true) ∧ w' = W := fun W => by have := CBx.out W; rw [hB] at this; exact this
  have hstep : refStep ⟨3, sl, tn, nm, vl, q, l0⟩ x = (⟨3, sl, tn, nm, vl, q, l0⟩, false) := by simp [refStep, hB, hne]
  have hTn : refGo N kind ⟨3, sl, tn, nm, vl, q, l0⟩ (xs.drop (j + 1)) = T := by rw [← HT.out, ref_on hstep]
  have HTn := Lib.hid hTn
  clear hstep hTn hne hB
  obtain ⟨hq3, hq2, hf3, hf2⟩ := tg4 HC.out
  have hrel6 : ∀ w6, RInv N kind xs T w ⟨3, sl, tn, nm, vl, q, l0⟩ j (.slice Av nv cv) w6 → RInv N kind xs T w ⟨3, sl, tn, nm, vl, q, l0⟩ (j + 1) (.slice Av nv cv) w6 := fun w6 h6 => by
   refine ⟨by simp, by omega, h6.hc, h6.ho, ?_, ?_, ?_, ?_, HLQ.out, HTn.out, h6.hb, h6.hx⟩
   all_goals (have h1 := h6.l1; have h2 := h6.l2; have h3 := h6.l3; have h4 := h6.l4; dsimp only at h1 h2 h3 h4 ⊢; first | omega | (simp; omega) | simp)
  have HR := Lib.hid hrel6
  clear hrel6
  go_wp2_with (first | (go_at_call 74; refine (hCB _).mono ?_; rintro r w1 ⟨rfl, e37⟩; obtain rfl := e37.symm; clear e37) | fail)
  go_roundw
  case rel => exact ⟨_, j + 1, _, rfl, rfl, by rw [← HS.out.1], by rw [← HS.out.2.1], rfl, rfl, HR.out _ HI.out⟩
  case measure => simp [RowKit.intOf]; omega
 by_cases h61 : x = 61
 case pos =>
  subst h61
  have hbx : blkB 61 = false := rfl
  have hCB : ∀ W, Calls Tryz.prog 74 #[.int .u8 61] W fun e w' => e = .returned (.bool false) ∧ w' = W := fun W => CBx.out W
  have hstep : refStep ⟨3, sl, tn, nm, vl, q, l0⟩ 61 = (⟨4, sl, tn, nm, vl, q, l0⟩, false) := by simp [refStep, blkB]
  have hTn : refGo N kind ⟨4, sl, tn, nm, vl, q, l0⟩ (xs.drop (j + 1)) = T := by rw [← HT.out, ref_on hstep]
  have HTn := Lib.hid hTn
  clear hstep hTn hbx
  obtain ⟨hq3, hq2, hf3, hf2⟩ := tg4 HC.out
  have hrel6 : ∀ w6, RInv N kind xs T w ⟨3, sl, tn, nm, vl, q, l0⟩ j (.slice Av nv cv) w6 → RInv N kind xs T w ⟨4, sl, tn, nm, vl, q, l0⟩ (j + 1) (.slice Av nv cv) w6 := fun w6 h6 => by
   refine ⟨by simp, by omega, h6.hc, h6.ho, ?_, ?_, ?_, ?_, HLQ.out, HTn.out, h6.hb, h6.hx⟩
   all_goals (have h1 := h6.l1; have h2 := h6.l2; have h3 := h6.l3; have h4 := h6.l4; dsimp only at h1 h2 h3 h4 ⊢; first | omega | (simp; omega) | simp)
  have HR := Lib.hid hrel6
  clear hrel6
  go_wp2_with (first | (go_at_call 74; refine (hCB _).mono ?_; rintro r w1 ⟨rfl, e37⟩; obtain rfl := e37.symm; clear e37) | fail)
  go_roundw
  case rel => exact ⟨_, j + 1, _, rfl, rfl, by rw [← HS.out.1], by rw [← HS.out.2.1], rfl, rfl, HR.out _ HI.out⟩
  case measure => simp [RowKit.intOf]; omega
 by_cases h47 : x = 47
 case pos =>
  subst h47
  have hbx : blkB 47 = false := rfl
  have hCB : ∀ W, Calls Tryz.prog 74 #[.int .u8 47] W fun e w' => e = .returned (.bool false) ∧ w' = W := fun W => CBx.out W
  have hstep : refStep ⟨3, sl, tn, nm, vl, q, l0⟩ 47 = (⟨1, true, tn, nm, vl, q, (l0 ++ [(nm, [])])⟩, false) := by simp [refStep, blkB]
  have hTn : refGo N kind ⟨1, true, tn, nm, vl, q, (l0 ++ [(nm, [])])⟩ (xs.drop (j + 1)) = T := by rw [← HT.out, ref_on hstep]
  have HTn := Lib.hid hTn
  clear hstep hTn hbx
  obtain ⟨hq3, hq2, hf3, hf2⟩ := tg4 HC.out
  have hI := HI.out
  have hoR : OwnR wr (w.heap.size + 1 + 1) l0 (.slice Av nv cv) := hI.ho
  have hll : l0.length ≤ 1000000 := by have h1 : l0.length ≤ j := hI.l1; have h2 := HH.out.2.2.2.2.2.2; omega
  have hw0 : wr.alloc (.cells #[strV ((nm, []) : AT).1, strV ((nm, []) : AT).2] 147) = wr.alloc (.cells #[.string SN, .string ⟨#[]⟩] 147) := by
   unfold strV
   dsimp only
   rw [HS.out.1]
   rfl
  have HA := Lib.hid (And.intro hoR (And.intro hll (And.intro hI hw0)))
  clear hoR hll hI hw0
  go_wp2_with (first
   | (at_builtin; refine wpList_appR rfl (.tmp 103) (.tmp 106) rfl (w.heap.size + 1 + 1) _ l0 ((nm, []) : AT) rfl wr HA.out.1 HA.out.2.2.2 rfl HA.out.2.1 (by omega) ?_)
   | (go_at_call 74; refine (hCB _).mono ?_; rintro r w1 ⟨rfl, e37⟩; obtain rfl := e37.symm; clear e37)
   | fail)
  intro g5 cp5 w5 ho5 hb5
  obtain ⟨hw5, hc5, hx5⟩ := tg5 HA.out.2.2.1 hb5 HC.out
  clear hb5 hq3 hq2 hf3 hf2
  have hq3 := hc5.cell 3
  have hf3 := hc5.froz 3
  have hg5 := hc5.lt
  simp [tagCs] at hq3
  have hrel5 : RInv N kind xs T w ⟨1, true, tn, nm, vl, q, (l0 ++ [(nm, [])])⟩ (j + 1) (.slice (some ⟨g5, 0, none⟩) (l0.length + 1) cp5) (w5.setCell ⟨w.heap.size + 1, 3, none⟩ (.slice (some ⟨g5, 0, none⟩) (l0.length + 1) cp5)) := by
   refine ⟨by simp, by omega, ?_, ho5.set (by omega) 3 _, ?_, ?_, ?_, ?_, HLQ.out, HTn.out, hw5.setc (by omega) 3 _, (Fz.set (X := (· = w.heap.size + 1)) _ _ _ _ rfl).cells (by omega) hx5⟩
   ·have h := hc5.set 3 (.slice (some ⟨g5, 0, none⟩) (l0.length + 1) cp5)
    rw [← HST.out] at h
    exact h
   ·have h : l0.length ≤ j := HA.out.2.2.1.l1
    simp
    omega
   ·have h : nm.length ≤ j := HA.out.2.2.1.l2
    simp
    try omega
   ·have h : vl.length ≤ j := HA.out.2.2.1.l3
    simp
    try omega
   ·have h : tn.length ≤ j := HA.out.2.2.1.l4
    show tn.length ≤ j + 1
    omega
  have HR := Lib.hid hrel5
  clear hrel5 ho5 hw5 hc5 hx5
  go_wp2_with fail
  go_roundw
  case rel => exact ⟨_, j + 1, _, rfl, rfl, by rw [← HS.out.1], by rw [← HS.out.2.1], rfl, rfl, HR.out⟩
  case measure => simp [RowKit.intOf]; omega
 by_cases h62 : x = 62
 case pos =>
  subst h62
  have hbx : blkB 62 = false := rfl
  have hCB : ∀ W, Calls Tryz.prog 74 #[.int .u8 62] W fun e w' => e = .returned (.bool false) ∧ w' = W := fun W => CBx.out W
  have hstep : refStep ⟨3, sl, tn, nm, vl, q, l0⟩ 62 = (⟨1, false, tn, nm, vl, q, (l0 ++ [(nm, [])])⟩, true) := by simp [refStep, blkB]
  have hTT : (⟨kind, j + 1, tn, l0 ++ [(nm, [])], false, true⟩ : TG) = T := by rw [← HT.out, ref_end hstep, HD.out.1]
  have HTT := Lib.hid hTT
  clear hstep hTT hbx
  obtain ⟨hq3, hq2, hf3, hf2⟩ := tg4 HC.out
  have hI := HI.out
  have hoR : OwnR wr (w.heap.size + 1 + 1) l0 (.slice Av nv cv) := hI.ho
  have hll : l0.length ≤ 1000000 := by have h1 : l0.length ≤ j := hI.l1; have h2 := HH.out.2.2.2.2.2.2; omega
  have hw0 : wr.alloc (.cells #[strV ((nm, []) : AT).1, strV ((nm, []) : AT).2] 147) = wr.alloc (.cells #[.string SN, .string ⟨#[]⟩] 147) := by
   unfold strV
   dsimp only
   rw [HS.out.1]
   rfl
  have HA := Lib.hid (And.intro hoR (And.intro hll (And.intro hI hw0)))
  clear hoR hll hI hw0
  go_wp2_with (first
   | (at_builtin; refine wpList_appR rfl (.tmp 103) (.tmp 106) rfl (w.heap.size + 1 + 1) _ l0 ((nm, []) : AT) rfl wr HA.out.1 HA.out.2.2.2 rfl HA.out.2.1 (by omega) ?_)
   | (go_at_call 74; refine (hCB _).mono ?_; rintro r w1 ⟨rfl, e37⟩; obtain rfl := e37.symm; clear e37)
   | fail)
  intro g5 cp5 w5 ho5 hb5
  obtain ⟨hw5, hc5, hx5⟩ := tg5 HA.out.2.2.1 hb5 HC.out
  clear hb5 hq3 hq2 hf3 hf2
  have q0 := (hc5).cell 0
  have fr0 := (hc5).froz 0
  have s0 := (hx5).cell 0
  have t0 := (hx5).froz 0
  have q1 := (hc5).cell 1
  have fr1 := (hc5).froz 1
  have s1 := (hx5).cell 1
  have t1 := (hx5).froz 1
  have q2 := (hc5).cell 2
  have fr2 := (hc5).froz 2
  have s2 := (hx5).cell 2
  have t2 := (hx5).froz 2
  have q3 := (hc5).cell 3
  have fr3 := (hc5).froz 3
  have s3 := (hx5).cell 3
  have t3 := (hx5).froz 3
  have q4 := (hc5).cell 4
  have fr4 := (hc5).froz 4
  have s4 := (hx5).cell 4
  have t4 := (hx5).froz 4
  have q5 := (hc5).cell 5
  have fr5 := (hc5).froz 5
  have s5 := (hx5).cell 5
  have t5 := (hx5).froz 5
  simp [tagCs] at q0 q1 q2 q3 q4 q5 s0 s1 s2 s3 s4 s5
  have ho6 := ho5.set (j := w.heap.size + 1) (by omega) 3 (.slice (some ⟨g5, 0, none⟩) (l0.length + 1) cp5)
  have hb6 := hw5.setc (j := w.heap.size + 1) (by omega) 3 (.slice (some ⟨g5, 0, none⟩) (l0.length + 1) cp5)
  have HF := Lib.hid (And.intro ho6 hb6)
  clear ho5 hw5 hc5 hx5 ho6 hb6
  go_wp2_with fail
  refine bodyPost_ret (v := .agg #[.int .i64 (kind : Int), .int .i64 ((j : Int) + 1), .string ST, .slice (some ⟨g5, 0, none⟩) (l0.length + 1) cp5, .bool false, .bool true]) ?_ rfl ?_
  ·simp [results, Tryz.results78, go_sem, s0, s1, s2, s3, s4, s5]
  ·have h := HH.out.2.2.2.1 _ (.slice (some ⟨g5, 0, none⟩) (l0.length + 1) cp5) _ HTT.out (((((((((HF.out.1.set (j := w.heap.size + 1) (by omega) 1 (.int .i64 ((j : Int) + 1))).set (j := w.heap.size + 1) (by omega) 5 (.bool true)).set (j := w.heap.size + 1) (by omega) 4 (.bool false)).set (j := w.heap.size) (by omega) 0 (.int .i64 (kind : Int))).set (j := w.heap.size) (by omega) 1 (.int .i64 ((j : Int) + 1))).set (j := w.heap.size) (by omega) 2 (.string ST)).set (j := w.heap.size) (by omega) 3 (.slice (some ⟨g5, 0, none⟩) (l0.length + 1) cp5)).set (j := w.heap.size) (by omega) 4 (.bool false)).set (j := w.heap.size) (by omega) 5 (.bool true)) (((((((((HF.out.2.setc (j := w.heap.size + 1) (by omega) 1 (.int .i64 ((j : Int) + 1))).setc (j := w.heap.size + 1) (by omega) 5 (.bool true)).setc (j := w.heap.size + 1) (by omega) 4 (.bool false)).setc (j := w.heap.size) (by omega) 0 (.int .i64 (kind : Int))).setc (j := w.heap.size) (by omega) 1 (.int .i64 ((j : Int) + 1))).setc (j := w.heap.size) (by omega) 2 (.string ST)).setc (j := w.heap.size) (by omega) 3 (.slice (some ⟨g5, 0, none⟩) (l0.length + 1) cp5)).setc (j := w.heap.size) (by omega) 4 (.bool false)).setc (j := w.heap.size) (by omega) 5 (.bool true))
   unfold tagV strV at h
   dsimp only at h
   rw [HST.out] at h
   exact h
 have hBf : blkB x = false := by simpa using hB
 have hCB : ∀ W, Calls Tryz.prog 74 #[.int .u8 (x : Int)] W fun e w' => e = .returned (.bool false) ∧ w' = W := fun W => by have := CBx.out W; rw [hBf] at this; exact this
 have b62 : ((x : Int) == 62) = false := by rw [beq_eq_false_iff_ne]; omega
 have n62 : ((x : Int) != 62) = true := by rw [bne_iff_ne]; omega
 have b47 : ((x : Int) == 47) = false := by rw [beq_eq_false_iff_ne]; omega
 have n47 : ((x : Int) != 47) = true := by rw [bne_iff_ne]; omega
 have b61 : ((x : Int) == 61) = false := by rw [beq_eq_false_iff_ne]; omega
 have hstep : refStep ⟨3, sl, tn, nm, vl, q, l0⟩ x = (⟨2, false, tn, [lowN x], [], q, (l0 ++ [(nm, [])])⟩, false) := by simp [refStep, hBf, h62, h47, h61]
 have hTn : refGo N kind ⟨2, false, tn, [lowN x], [], q, (l0 ++ [(nm, [])])⟩ (xs.drop (j + 1)) = T := by rw [← HT.out, ref_on hstep]
 have HTn := Lib.hid hTn
 clear hstep hTn hBf
 obtain ⟨hq3, hq2, hf3, hf2⟩ := tg4 HC.out
 have hI := HI.out
 have hoR : OwnR wr (w.heap.size + 1 + 1) l0 (.slice Av nv cv) := hI.ho
 have hll : l0.length ≤ 1000000 := by have h1 : l0.length ≤ j := hI.l1; have h2 := HH.out.2.2.2.2.2.2; omega
 have hw0 : wr.alloc (.cells #[strV ((nm, []) : AT).1, strV ((nm, []) : AT).2] 147) = wr.alloc (.cells #[.string SN, .string ⟨#[]⟩] 147) := by
  unfold strV
  dsimp only
  rw [HS.out.1]
  rfl
 have HA := Lib.hid (And.intro hoR (And.intro hll (And.intro hI hw0)))
 clear hoR hll hI hw0
 go_wp2_with (first
  | (at_builtin; refine wpList_appR rfl (.tmp 103) (.tmp 106) rfl (w.heap.size + 1 + 1) _ l0 ((nm, []) : AT) rfl wr HA.out.1 HA.out.2.2.2 rfl HA.out.2.1 (by omega) ?_)
  | (go_at_call 74; refine (hCB _).mono ?_; rintro r w1 ⟨rfl, e37⟩; obtain rfl := e37.symm; clear e37)
  | fail)
 intro g5 cp5 w5 ho5 hb5
 obtain ⟨hw5, hc5, hx5⟩ := tg5 HA.out.2.2.1 hb5 HC.out
 clear hb5 hq3 hq2 hf3 hf2
 have hq3 := hc5.cell 3
 have hf3 := hc5.froz 3
 have hg5 := hc5.lt
 simp [tagCs] at hq3
 have hrel5 : RInv N kind xs T w ⟨2, false, tn, [lowN x], [], q, (l0 ++ [(nm, [])])⟩ (j + 1) (.slice (some ⟨g5, 0, none⟩) (l0.length + 1) cp5) (w5.setCell ⟨w.heap.size + 1, 3, none⟩ (.slice (some ⟨g5, 0, none⟩) (l0.length + 1) cp5)) := by
  refine ⟨by simp, by omega, ?_, ho5.set (by omega) 3 _, ?_, ?_, ?_, ?_, HLQ.out, HTn.out, hw5.setc (by omega) 3 _, (Fz.set (X := (· = w.heap.size + 1)) _ _ _ _ rfl).cells (by omega) hx5⟩
  ·have h := hc5.set 3 (.slice (some ⟨g5, 0, none⟩) (l0.length + 1) cp5)
   rw [← HST.out] at h
   exact h
  ·have h : l0.length ≤ j := HA.out.2.2.1.l1
   simp
   omega
  ·have h : nm.length ≤ j := HA.out.2.2.1.l2
   simp
   try omega
  ·have h : vl.length ≤ j := HA.out.2.2.1.l3
   simp
   try omega
  ·have h : tn.length ≤ j := HA.out.2.2.1.l4
   show tn.length ≤ j + 1
   omega
 have HR := Lib.hid hrel5
 clear hrel5 ho5 hw5 hc5 hx5
 go_wp2_with (first | (go_at_call 73; refine (HCL.out _).mono ?_; rintro r w6 ⟨rfl, hb6⟩) | fail)
 have hm6 : RRel N kind xs T w (.int .i64 2) (.bool false) (.string SL) (.string ⟨#[]⟩) (.int .u8 (q : Int)) (.int .i64 ((j : Int) + 1)) w6 := ⟨_, j + 1, _, rfl, rfl, by rw [← HS.out.2.2.2.1], rfl, rfl, rfl, HR.out.on hb6⟩
 have HM := Lib.hid hm6
 clear hm6 hb6
 go_wp2_with fail
 go_roundw
 case rel => exact HM.out
 case measure => simp [RowKit.intOf]; omega
theorem refTag_s4 : refTag_parts.T4 := by
 intro b o cap n kind xs w T Q N hcap hlen hn HH K0 a0 wr
 iterate 173 intro _
 intro sl tn nm vl q l0 j Av nv cv hj z1 z0 hlt x left0 ST hzt SN hzn SV hzv SX hz1 SL hz2 HS HST HC HCL HD CBx HLQ K1 K2 K3 HT HI Q9 a1 a2 a3
 by_cases hB : blkB x = true
 case pos =>
  have hne := blk_not hB
  have b47 : ((x : Int) == 47) = false := by rw [beq_eq_false_iff_ne]; omega
  have b62 : ((x : Int) == 62) = false := by rw [beq_eq_false_iff_ne]; omega
  have b61 : ((x : Int) == 61) = false := by rw [beq_eq_false_iff_ne]; omega
  have b34 : ((x : Int) == 34) = false := by rw [beq_eq_false_iff_ne]; omega
  have b39 : ((x : Int) == 39) = false := by rw [beq_eq_false_iff_ne]; omega
  have hCB : ∀ W, Calls Tryz.prog 74 #[.int .u8 (x : Int)] W fun e w' => e = .returned (.bool true) ∧ w' = W := fun W => by have := CBx.out W; rw [hB] at this; exact this
  have hstep : refStep ⟨4, sl, tn, nm, vl, q, l0⟩ x = (⟨4, sl, tn, nm, vl, q, l0⟩, false) := by simp [refStep, hB, hne]
  have hTn : refGo N kind ⟨4, sl, tn, nm, vl, q, l0⟩ (xs.drop (j + 1)) = T := by rw [← HT.out, ref_on hstep]
  have HTn := Lib.hid hTn
  clear hstep hTn hne hB
  obtain ⟨hq3, hq2, hf3, hf2⟩ := tg4 HC.out
  have hrel6 : ∀ w6, RInv N kind xs T w ⟨4, sl, tn, nm, vl, q, l0⟩ j (.slice Av nv cv) w6 → RInv N kind xs T w ⟨4, sl, tn, nm, vl, q, l0⟩ (j + 1) (.slice Av nv cv) w6 := fun w6 h6 => by
   refine ⟨by simp, by omega, h6.hc, h6.ho, ?_, ?_, ?_, ?_, HLQ.out, HTn.out, h6.hb, h6.hx⟩
   all_goals (have h1 := h6.l1; have h2 := h6.l2; have h3 := h6.l3; have h4 := h6.l4; dsimp only at h1 h2 h3 h4 ⊢; first | omega | (simp; omega) | simp)
  have HR := Lib.hid hrel6
  clear hrel6
  go_wp2_with (first | (go_at_call 74; refine (hCB _).mono ?_; rintro r w1 ⟨rfl, e37⟩; obtain rfl := e37.symm; clear e37) | fail)
  go_roundw
  case rel => exact ⟨_, j + 1, _, rfl, rfl, by rw [← HS.out.1], by rw [← HS.out.2.1], rfl, rfl, HR.out _ HI.out⟩
  case measure => simp [RowKit.intOf]; omega
 by_cases h34 : x = 34
 case pos =>
  subst h34
  have hbx : blkB 34 = false := rfl
  have hCB : ∀ W, Calls Tryz.prog 74 #[.int .u8 34] W fun e w' => e = .returned (.bool false) ∧ w' = W := fun W => CBx.out W
  have hstep : refStep ⟨4, sl, tn, nm, vl, q, l0⟩ 34 = (⟨6, sl, tn, nm, vl, 34, l0⟩, false) := by simp [refStep, blkB]
  have hTn : refGo N kind ⟨6, sl, tn, nm, vl, 34, l0⟩ (xs.drop (j + 1)) = T := by rw [← HT.out, ref_on hstep]
  have HTn := Lib.hid hTn
  clear hstep hTn hbx
  obtain ⟨hq3, hq2, hf3, hf2⟩ := tg4 HC.out
  have hrel6 : ∀ w6, RInv N kind xs T w ⟨4, sl, tn, nm, vl, q, l0⟩ j (.slice Av nv cv) w6 → RInv N kind xs T w ⟨6, sl, tn, nm, vl, 34, l0⟩ (j + 1) (.slice Av nv cv) w6 := fun w6 h6 => by
   refine ⟨by simp, by omega, h6.hc, h6.ho, ?_, ?_, ?_, ?_, HD.out.2.2, HTn.out, h6.hb, h6.hx⟩
   all_goals (have h1 := h6.l1; have h2 := h6.l2; have h3 := h6.l3; have h4 := h6.l4; dsimp only at h1 h2 h3 h4 ⊢; first | omega | (simp; omega) | simp)
  have HR := Lib.hid hrel6
  clear hrel6
  go_wp2_with (first | (go_at_call 74; refine (hCB _).mono ?_; rintro r w1 ⟨rfl, e37⟩; obtain rfl := e37.symm; clear e37) | fail)
  go_roundw
  case rel => exact ⟨_, j + 1, _, rfl, rfl, by rw [← HS.out.1], by rw [← HS.out.2.1], rfl, rfl, HR.out _ HI.out⟩
  case measure => simp [RowKit.intOf]; omega
 by_cases h39 : x = 39
 case pos =>
  subst h39
  have hbx : blkB 39 = false := rfl
  have hCB : ∀ W, Calls Tryz.prog 74 #[.int .u8 39] W fun e w' => e = .returned (.bool false) ∧ w' = W := fun W => CBx.out W
  have hstep : refStep ⟨4, sl, tn, nm, vl, q, l0⟩ 39 = (⟨6, sl, tn, nm, vl, 39, l0⟩, false) := by simp [refStep, blkB]
  have hTn : refGo N kind ⟨6, sl, tn, nm, vl, 39, l0⟩ (xs.drop (j + 1)) = T := by rw [← HT.out, ref_on hstep]
  have HTn := Lib.hid hTn
  clear hstep hTn hbx
  obtain ⟨hq3, hq2, hf3, hf2⟩ := tg4 HC.out
  have hrel6 : ∀ w6, RInv N kind xs T w ⟨4, sl, tn, nm, vl, q, l0⟩ j (.slice Av nv cv) w6 → RInv N kind xs T w ⟨6, sl, tn, nm, vl, 39, l0⟩ (j + 1) (.slice Av nv cv) w6 := fun w6 h6 => by
   refine ⟨by simp, by omega, h6.hc, h6.ho, ?_, ?_, ?_, ?_, HD.out.2.2, HTn.out, h6.hb, h6.hx⟩
   all_goals (have h1 := h6.l1; have h2 := h6.l2; have h3 := h6.l3; have h4 := h6.l4; dsimp only at h1 h2 h3 h4 ⊢; first | omega | (simp; omega) | simp)
  have HR := Lib.hid hrel6
  clear hrel6
  go_wp2_with (first | (go_at_call 74; refine (hCB _).mono ?_; rintro r w1 ⟨rfl, e37⟩; obtain rfl := e37.symm; clear e37) | fail)
  go_roundw
  case rel => exact ⟨_, j + 1, _, rfl, rfl, by rw [← HS.out.1], by rw [← HS.out.2.1], rfl, rfl, HR.out _ HI.out⟩
  case measure => simp [RowKit.intOf]; omega
 by_cases h62 : x = 62
 case pos =>
  subst h62
  have hbx : blkB 62 = false := rfl
  have hCB : ∀ W, Calls Tryz.prog 74 #[.int .u8 62] W fun e w' => e = .returned (.bool false) ∧ w' = W := fun W => CBx.out W
  have hstep : refStep ⟨4, sl, tn, nm, vl, q, l0⟩ 62 = (⟨1, false, tn, nm, vl, q, (l0 ++ [(nm, [])])⟩, true) := by simp [refStep, blkB]
  have hTT : (⟨kind, j + 1, tn, l0 ++ [(nm, [])], false, true⟩ : TG) = T := by rw [← HT.out, ref_end hstep, HD.out.1]
  have HTT := Lib.hid hTT
  clear hstep hTT hbx
  obtain ⟨hq3, hq2, hf3, hf2⟩ := tg4 HC.out
  have hI := HI.out
  have hoR : OwnR wr (w.heap.size + 1 + 1) l0 (.slice Av nv cv) := hI.ho
  have hll : l0.length ≤ 1000000 := by have h1 : l0.length ≤ j := hI.l1; have h2 := HH.out.2.2.2.2.2.2; omega
  have hw0 : wr.alloc (.cells #[strV ((nm, []) : AT).1, strV ((nm, []) : AT).2] 147) = wr.alloc (.cells #[.string SN, .string ⟨#[]⟩] 147) := by
   unfold strV
   dsimp only
   rw [HS.out.1]
   rfl
  have HA := Lib.hid (And.intro hoR (And.intro hll (And.intro hI hw0)))
  clear hoR hll hI hw0
  go_wp2_with (first
   | (at_builtin; refine wpList_appR rfl (.tmp 142) (.tmp 145) rfl (w.heap.size + 1 + 1) _ l0 ((nm, []) : AT) rfl wr HA.out.1 HA.out.2.2.2 rfl HA.out.2.1 (by omega) ?_)
   | (go_at_call 74; refine (hCB _).mono ?_; rintro r w1 ⟨rfl, e37⟩; obtain rfl := e37.symm; clear e37)
   | fail)
  intro g5 cp5 w5 ho5 hb5
  obtain ⟨hw5, hc5, hx5⟩ := tg5 HA.out.2.2.1 hb5 HC.out
  clear hb5 hq3 hq2 hf3 hf2
  have q0 := (hc5).cell 0
  have fr0 := (hc5).froz 0
  have s0 := (hx5).cell 0
  have t0 := (hx5).froz 0
  have q1 := (hc5).cell 1
  have fr1 := (hc5).froz 1
  have s1 := (hx5).cell 1
  have t1 := (hx5).froz 1
  have q2 := (hc5).cell 2
  have fr2 := (hc5).froz 2
  have s2 := (hx5).cell 2
  have t2 := (hx5).froz 2
  have q3 := (hc5).cell 3
  have fr3 := (hc5).froz 3
  have s3 := (hx5).cell 3
  have t3 := (hx5).froz 3
  have q4 := (hc5).cell 4
  have fr4 := (hc5).froz 4
  have s4 := (hx5).cell 4
  have t4 := (hx5).froz 4
  have q5 := (hc5).cell 5
  have fr5 := (hc5).froz 5
  have s5 := (hx5).cell 5
  have t5 := (hx5).froz 5
  simp [tagCs] at q0 q1 q2 q3 q4 q5 s0 s1 s2 s3 s4 s5
  have ho6 := ho5.set (j := w.heap.size + 1) (by omega) 3 (.slice (some ⟨g5, 0, none⟩) (l0.length + 1) cp5)
  have hb6 := hw5.setc (j := w.heap.size + 1) (by omega) 3 (.slice (some ⟨g5, 0, none⟩) (l0.length + 1) cp5)
  have HF := Lib.hid (And.intro ho6 hb6)
  clear ho5 hw5 hc5 hx5 ho6 hb6
  go_wp2_with fail
  refine bodyPost_ret (v := .agg #[.int .i64 (kind : Int), .int .i64 ((j : Int) + 1), .string ST, .slice (some ⟨g5, 0, none⟩) (l0.length + 1) cp5, .bool false, .bool true]) ?_ rfl ?_
  ·simp [results, Tryz.results78, go_sem, s0, s1, s2, s3, s4, s5]
  ·have h := HH.out.2.2.2.1 _ (.slice (some ⟨g5, 0, none⟩) (l0.length + 1) cp5) _ HTT.out (((((((((HF.out.1.set (j := w.heap.size + 1) (by omega) 1 (.int .i64 ((j : Int) + 1))).set (j := w.heap.size + 1) (by omega) 5 (.bool true)).set (j := w.heap.size + 1) (by omega) 4 (.bool false)).set (j := w.heap.size) (by omega) 0 (.int .i64 (kind : Int))).set (j := w.heap.size) (by omega) 1 (.int .i64 ((j : Int) + 1))).set (j := w.heap.size) (by omega) 2 (.string ST)).set (j := w.heap.size) (by omega) 3 (.slice (some ⟨g5, 0, none⟩) (l0.length + 1) cp5)).set (j := w.heap.size) (by omega) 4 (.bool false)).set (j := w.heap.size) (by omega) 5 (.bool true)) (((((((((HF.out.2.setc (j := w.heap.size + 1) (by omega) 1 (.int .i64 ((j : Int) + 1))).setc (j := w.heap.size + 1) (by omega) 5 (.bool true)).setc (j := w.heap.size + 1) (by omega) 4 (.bool false)).setc (j := w.heap.size) (by omega) 0 (.int .i64 (kind : Int))).setc (j := w.heap.size) (by omega) 1 (.int .i64 ((j : Int) + 1))).setc (j := w.heap.size) (by omega) 2 (.string ST)).setc (j := w.heap.size) (by omega) 3 (.slice (some ⟨g5, 0, none⟩) (l0.length + 1) cp5)).setc (j := w.heap.size) (by omega) 4 (.bool false)).setc (j := w.heap.size) (by omega) 5 (.bool true))
   unfold tagV strV at h
   dsimp only at h
   rw [HST.out] at h
   exact h
 have hBf : blkB x = false := by simpa using hB
 have hCB : ∀ W, Calls Tryz.prog 74 #[.int .u8 (x : Int)] W fun e w' => e = .returned (.bool false) ∧ w' = W := fun W => by have := CBx.out W; rw [hBf] at this; exact this
 have b62 : ((x : Int) == 62) = false := by rw [beq_eq_false_iff_ne]; omega
 have n62 : ((x : Int) != 62) = true := by rw [bne_iff_ne]; omega
 have b34 : ((x : Int) == 34) = false := by rw [beq_eq_false_iff_ne]; omega
 have b39 : ((x : Int) == 39) = false := by rw [beq_eq_false_iff_ne]; omega
 have hstep : refStep ⟨4, sl, tn, nm, vl, q, l0⟩ x = (⟨5, sl, tn, nm, [x], q, l0⟩, false) := by simp [refStep, hBf, h62, h34, h39]
 have hTn : refGo N kind ⟨5, sl, tn, nm, [x], q, l0⟩ (xs.drop (j + 1)) = T := by rw [← HT.out, ref_on hstep]
 have HTn := Lib.hid hTn
 clear hstep hTn hBf
 obtain ⟨hq3, hq2, hf3, hf2⟩ := tg4 HC.out
 have hrel6 : ∀ w6, RInv N kind xs T w ⟨4, sl, tn, nm, vl, q, l0⟩ j (.slice Av nv cv) w6 → RInv N kind xs T w ⟨5, sl, tn, nm, [x], q, l0⟩ (j + 1) (.slice Av nv cv) w6 := fun w6 h6 => by
  refine ⟨by simp, by omega, h6.hc, h6.ho, ?_, ?_, ?_, ?_, HLQ.out, HTn.out, h6.hb, h6.hx⟩
  all_goals (have h1 := h6.l1; have h2 := h6.l2; have h3 := h6.l3; have h4 := h6.l4; dsimp only at h1 h2 h3 h4 ⊢; first | omega | (simp; omega) | simp)
 have HR := Lib.hid hrel6
 clear hrel6
 go_wp2_with (first | (go_at_call 74; refine (hCB _).mono ?_; rintro r w1 ⟨rfl, e37⟩; obtain rfl := e37.symm; clear e37) | fail)
 go_roundw
 case rel => exact ⟨_, j + 1, _, rfl, rfl, by rw [← HS.out.1], by rw [← HS.out.2.2.1], rfl, rfl, HR.out _ HI.out⟩
 case measure => simp [RowKit.intOf]; omega
theorem refTag_s5 : refTag_parts.T5 := by
 intro b o cap n kind xs w T Q N hcap hlen hn HH K0 a0 wr
 iterate 173 intro _
 intro sl tn nm vl q l0 j Av nv cv hj z1 z0 hlt x left0 ST hzt SN hzn SV hzv SX hz1 SL hz2 HS HST HC HCL HD CBx HLQ K1 K2 K3 HT HI Q9 a1 a2 a3
 by_cases hB : blkB x = true
 case pos =>
  have hne := blk_not hB
  have b47 : ((x : Int) == 47) = false := by rw [beq_eq_false_iff_ne]; omega
  have b62 : ((x : Int) == 62) = false := by rw [beq_eq_false_iff_ne]; omega
  have b61 : ((x : Int) == 61) = false := by rw [beq_eq_false_iff_ne]; omega
  have b34 : ((x : Int) == 34) = false := by rw [beq_eq_false_iff_ne]; omega
  have b39 : ((x : Int) == 39) = false := by rw [beq_eq_false_iff_ne]; omega
  have hCB : ∀ W, Calls Tryz.prog 74 #[.int .u8 (x : Int)] W fun e w' => e = .returned (.bool true) ∧ w' = W := fun W => by have := CBx.out W; rw [hB] at this; exact this
  have hstep : refStep ⟨5, sl, tn, nm, vl, q, l0⟩ x = (⟨1, false, tn, nm, vl, q, (l0 ++ [(nm, vl)])⟩, false) := by simp [refStep, hB, hne]
  have hTn : refGo N kind ⟨1, false, tn, nm, vl, q, (l0 ++ [(nm, vl)])⟩ (xs.drop (j + 1)) = T := by rw [← HT.out, ref_on hstep]
  have HTn := Lib.hid hTn
  clear hstep hTn hne hB
  obtain ⟨hq3, hq2, hf3, hf2⟩ := tg4 HC.out
  have hI := HI.out
  have hoR : OwnR wr (w.heap.size + 1 + 1) l0 (.slice Av nv cv) := hI.ho
  have hll : l0.length ≤ 1000000 := by have h1 : l0.length ≤ j := hI.l1; have h2 := HH.out.2.2.2.2.2.2; omega
  have hw0 : wr.alloc (.cells #[strV ((nm, vl) : AT).1, strV ((nm, vl) : AT).2] 147) = wr.alloc (.cells #[.string SN, .string SV] 147) := by
   unfold strV
   dsimp only
   rw [HS.out.1, HS.out.2.1]
  have HA := Lib.hid (And.intro hoR (And.intro hll (And.intro hI hw0)))
  clear hoR hll hI hw0
  go_wp2_with (first
   | (at_builtin; refine wpList_appR rfl (.tmp 156) (.tmp 160) rfl (w.heap.size + 1 + 1) _ l0 ((nm, vl) : AT) rfl wr HA.out.1 HA.out.2.2.2 rfl HA.out.2.1 (by omega) ?_)
   | (go_at_call 74; refine (hCB _).mono ?_; rintro r w1 ⟨rfl, e37⟩; obtain rfl := e37.symm; clear e37)
   | fail)
  intro g5 cp5 w5 ho5 hb5
  obtain ⟨hw5, hc5, hx5⟩ := tg5 HA.out.2.2.1 hb5 HC.out
  clear hb5 hq3 hq2 hf3 hf2
  have hq3 := hc5.cell 3
  have hf3 := hc5.froz 3
  have hg5 := hc5.lt
  simp [tagCs] at hq3
  have hrel5 : RInv N kind xs T w ⟨1, false, tn, nm, vl, q, (l0 ++ [(nm, vl)])⟩ (j + 1) (.slice (some ⟨g5, 0, none⟩) (l0.length + 1) cp5) (w5.setCell ⟨w.heap.size + 1, 3, none⟩ (.slice (some ⟨g5, 0, none⟩) (l0.length + 1) cp5)) := by
   refine ⟨by simp, by omega, ?_, ho5.set (by omega) 3 _, ?_, ?_, ?_, ?_, HLQ.out, HTn.out, hw5.setc (by omega) 3 _, (Fz.set (X := (· = w.heap.size + 1)) _ _ _ _ rfl).cells (by omega) hx5⟩
   ·have h := hc5.set 3 (.slice (some ⟨g5, 0, none⟩) (l0.length + 1) cp5)
    rw [← HST.out] at h
    exact h
   ·have h : l0.length ≤ j := HA.out.2.2.1.l1
    simp
    omega
   ·have h : nm.length ≤ j := HA.out.2.2.1.l2
    simp
    try omega
   ·have h : vl.length ≤ j := HA.out.2.2.1.l3
    simp
    try omega
   ·have h : tn.length ≤ j := HA.out.2.2.1.l4
    show tn.length ≤ j + 1
    omega
  have HR := Lib.hid hrel5
  clear hrel5 ho5 hw5 hc5 hx5
  go_wp2_with fail
  go_roundw
  case rel => exact ⟨_, j + 1, _, rfl, rfl, by rw [← HS.out.1], by rw [← HS.out.2.1], rfl, rfl, HR.out⟩
  case measure => simp [RowKit.intOf]; omega
 by_cases h62 : x = 62
 case pos =>
  subst h62
  have hbx : blkB 62 = false := rfl
  have hCB : ∀ W, Calls Tryz.prog 74 #[.int .u8 62] W fun e w' => e = .returned (.bool false) ∧ w' = W := fun W => CBx.out W
  have hstep : refStep ⟨5, sl, tn, nm, vl, q, l0⟩ 62 = (⟨1, false, tn, nm, vl, q, (l0 ++ [(nm, vl)])⟩, true) := by simp [refStep, blkB]
  have hTT : (⟨kind, j + 1, tn, l0 ++ [(nm, vl)], false, true⟩ : TG) = T := by rw [← HT.out, ref_end hstep, HD.out.1]
  have HTT := Lib.hid hTT
  clear hstep hTT hbx
  obtain ⟨hq3, hq2, hf3, hf2⟩ := tg4 HC.out
  have hI := HI.out
  have hoR : OwnR wr (w.heap.size + 1 + 1) l0 (.slice Av nv cv) := hI.ho
  have hll : l0.length ≤ 1000000 := by have h1 : l0.length ≤ j := hI.l1; have h2 := HH.out.2.2.2.2.2.2; omega
  have hw0 : wr.alloc (.cells #[strV ((nm, vl) : AT).1, strV ((nm, vl) : AT).2] 147) = wr.alloc (.cells #[.string SN, .string SV] 147) := by
   unfold strV
   dsimp only
   rw [HS.out.1, HS.out.2.1]
  have HA := Lib.hid (And.intro hoR (And.intro hll (And.intro hI hw0)))
  clear hoR hll hI hw0
  go_wp2_with (first
   | (at_builtin; refine wpList_appR rfl (.tmp 156) (.tmp 160) rfl (w.heap.size + 1 + 1) _ l0 ((nm, vl) : AT) rfl wr HA.out.1 HA.out.2.2.2 rfl HA.out.2.1 (by omega) ?_)
   | (go_at_call 74; refine (hCB _).mono ?_; rintro r w1 ⟨rfl, e37⟩; obtain rfl := e37.symm; clear e37)
   | fail)
  intro g5 cp5 w5 ho5 hb5
  obtain ⟨hw5, hc5, hx5⟩ := tg5 HA.out.2.2.1 hb5 HC.out
  clear hb5 hq3 hq2 hf3 hf2
  have q0 := (hc5).cell 0
  have fr0 := (hc5).froz 0
  have s0 := (hx5).cell 0
  have t0 := (hx5).froz 0
  have q1 := (hc5).cell 1
  have fr1 := (hc5).froz 1
  have s1 := (hx5).cell 1
  have t1 := (hx5).froz 1
  have q2 := (hc5).cell 2
  have fr2 := (hc5).froz 2
  have s2 := (hx5).cell 2
  have t2 := (hx5).froz 2
  have q3 := (hc5).cell 3
  have fr3 := (hc5).froz 3
  have s3 := (hx5).cell 3
  have t3 := (hx5).froz 3
  have q4 := (hc5).cell 4
  have fr4 := (hc5).froz 4
  have s4 := (hx5).cell 4
  have t4 := (hx5).froz 4
  have q5 := (hc5).cell 5
  have fr5 := (hc5).froz 5
  have s5 := (hx5).cell 5
  have t5 := (hx5).froz 5
  simp [tagCs] at q0 q1 q2 q3 q4 q5 s0 s1 s2 s3 s4 s5
  have ho6 := ho5.set (j := w.heap.size + 1) (by omega) 3 (.slice (some ⟨g5, 0, none⟩) (l0.length + 1) cp5)
  have hb6 := hw5.setc (j := w.heap.size + 1) (by omega) 3 (.slice (some ⟨g5, 0, none⟩) (l0.length + 1) cp5)
  have HF := Lib.hid (And.intro ho6 hb6)
  clear ho5 hw5 hc5 hx5 ho6 hb6
  go_wp2_with fail
  refine bodyPost_ret (v := .agg #[.int .i64 (kind : Int), .int .i64 ((j : Int) + 1), .string ST, .slice (some ⟨g5, 0, none⟩) (l0.length + 1) cp5, .bool false, .bool true]) ?_ rfl ?_
  ·simp [results, Tryz.results78, go_sem, s0, s1, s2, s3, s4, s5]
  ·have h := HH.out.2.2.2.1 _ (.slice (some ⟨g5, 0, none⟩) (l0.length + 1) cp5) _ HTT.out (((((((((HF.out.1.set (j := w.heap.size + 1) (by omega) 1 (.int .i64 ((j : Int) + 1))).set (j := w.heap.size + 1) (by omega) 5 (.bool true)).set (j := w.heap.size + 1) (by omega) 4 (.bool false)).set (j := w.heap.size) (by omega) 0 (.int .i64 (kind : Int))).set (j := w.heap.size) (by omega) 1 (.int .i64 ((j : Int) + 1))).set (j := w.heap.size) (by omega) 2 (.string ST)).set (j := w.heap.size) (by omega) 3 (.slice (some ⟨g5, 0, none⟩) (l0.length + 1) cp5)).set (j := w.heap.size) (by omega) 4 (.bool false)).set (j := w.heap.size) (by omega) 5 (.bool true)) (((((((((HF.out.2.setc (j := w.heap.size + 1) (by omega) 1 (.int .i64 ((j : Int) + 1))).setc (j := w.heap.size + 1) (by omega) 5 (.bool true)).setc (j := w.heap.size + 1) (by omega) 4 (.bool false)).setc (j := w.heap.size) (by omega) 0 (.int .i64 (kind : Int))).setc (j := w.heap.size) (by omega) 1 (.int .i64 ((j : Int) + 1))).setc (j := w.heap.size) (by omega) 2 (.string ST)).setc (j := w.heap.size) (by omega) 3 (.slice (some ⟨g5, 0, none⟩) (l0.length + 1) cp5)).setc (j := w.heap.size) (by omega) 4 (.bool false)).setc (j := w.heap.size) (by omega) 5 (.bool true))
   unfold tagV strV at h
   dsimp only at h
   rw [HST.out] at h
   exact h
 have hBf : blkB x = false := by simpa using hB
 have hCB : ∀ W, Calls Tryz.prog 74 #[.int .u8 (x : Int)] W fun e w' => e = .returned (.bool false) ∧ w' = W := fun W => by have := CBx.out W; rw [hBf] at this; exact this
 have b62 : ((x : Int) == 62) = false := by rw [beq_eq_false_iff_ne]; omega
 have n62 : ((x : Int) != 62) = true := by rw [bne_iff_ne]; omega
 have hstep : refStep ⟨5, sl, tn, nm, vl, q, l0⟩ x = (⟨5, sl, tn, nm, (vl ++ [x]), q, l0⟩, false) := by simp [refStep, hBf, h62]
 have hTn : refGo N kind ⟨5, sl, tn, nm, (vl ++ [x]), q, l0⟩ (xs.drop (j + 1)) = T := by rw [← HT.out, ref_on hstep]
 have HTn := Lib.hid hTn
 clear hstep hTn hBf
 obtain ⟨hq3, hq2, hf3, hf2⟩ := tg4 HC.out
 have hrel6 : ∀ w6, RInv N kind xs T w ⟨5, sl, tn, nm, vl, q, l0⟩ j (.slice Av nv cv) w6 → RInv N kind xs T w ⟨5, sl, tn, nm, (vl ++ [x]), q, l0⟩ (j + 1) (.slice Av nv cv) w6 := fun w6 h6 => by
  refine ⟨by simp, by omega, h6.hc, h6.ho, ?_, ?_, ?_, ?_, HLQ.out, HTn.out, h6.hb, h6.hx⟩
  all_goals (have h1 := h6.l1; have h2 := h6.l2; have h3 := h6.l3; have h4 := h6.l4; dsimp only at h1 h2 h3 h4 ⊢; first | omega | (simp; omega) | simp)
 have HR := Lib.hid hrel6
 clear hrel6
 go_wp2_with (first | (go_at_call 74; refine (hCB _).mono ?_; rintro r w1 ⟨rfl, e37⟩; obtain rfl := e37.symm; clear e37) | fail)
 go_roundw
 case rel => exact ⟨_, j + 1, _, rfl, rfl, by rw [← HS.out.1], by rw [HS.out.2.2.2.2.2.1], rfl, rfl, HR.out _ HI.out⟩
 case measure => simp [RowKit.intOf]; omega
theorem refTag_s6 : refTag_parts.T6 := by
 intro b o cap n kind xs w T Q N hcap hlen hn HH K0 a0 wr
 iterate 173 intro _
 intro sl tn nm vl q l0 j Av nv cv hj z1 z0 hlt x left0 ST hzt SN hzn SV hzv SX hz1 SL hz2 HS HST HC HCL HD CBx HLQ K1 K2 K3 HT HI Q9 a1 a2 a3
 by_cases hqq : x = q
 case pos =>
  subst hqq
  have bq : ((x : Int) == (x : Int)) = true := by simp
  have hstep : refStep ⟨6, sl, tn, nm, vl, x, l0⟩ x = (⟨1, false, tn, nm, vl, x, (l0 ++ [(nm, vl)])⟩, false) := by simp [refStep]
  have hTn : refGo N kind ⟨1, false, tn, nm, vl, x, (l0 ++ [(nm, vl)])⟩ (xs.drop (j + 1)) = T := by rw [← HT.out, ref_on hstep]
  have HTn := Lib.hid hTn
  clear hstep hTn
  obtain ⟨hq3, hq2, hf3, hf2⟩ := tg4 HC.out
  have hI := HI.out
  have hoR : OwnR wr (w.heap.size + 1 + 1) l0 (.slice Av nv cv) := hI.ho
  have hll : l0.length ≤ 1000000 := by have h1 : l0.length ≤ j := hI.l1; have h2 := HH.out.2.2.2.2.2.2; omega
  have hw0 : wr.alloc (.cells #[strV ((nm, vl) : AT).1, strV ((nm, vl) : AT).2] 147) = wr.alloc (.cells #[.string SN, .string SV] 147) := by
   unfold strV
   dsimp only
   rw [HS.out.1, HS.out.2.1]
  have HA := Lib.hid (And.intro hoR (And.intro hll (And.intro hI hw0)))
  clear hoR hll hI hw0
  go_wp2_with (first
   | (at_builtin; refine wpList_appR rfl (.tmp 172) (.tmp 176) rfl (w.heap.size + 1 + 1) _ l0 ((nm, vl) : AT) rfl wr HA.out.1 HA.out.2.2.2 rfl HA.out.2.1 (by omega) ?_)
   | fail)
  intro g5 cp5 w5 ho5 hb5
  obtain ⟨hw5, hc5, hx5⟩ := tg5 HA.out.2.2.1 hb5 HC.out
  clear hb5 hq3 hq2 hf3 hf2
  have hq3 := hc5.cell 3
  have hf3 := hc5.froz 3
  have hg5 := hc5.lt
  simp [tagCs] at hq3
  have hrel5 : RInv N kind xs T w ⟨1, false, tn, nm, vl, x, (l0 ++ [(nm, vl)])⟩ (j + 1) (.slice (some ⟨g5, 0, none⟩) (l0.length + 1) cp5) (w5.setCell ⟨w.heap.size + 1, 3, none⟩ (.slice (some ⟨g5, 0, none⟩) (l0.length + 1) cp5)) := by
   refine ⟨by simp, by omega, ?_, ho5.set (by omega) 3 _, ?_, ?_, ?_, ?_, HLQ.out, HTn.out, hw5.setc (by omega) 3 _, (Fz.set (X := (· = w.heap.size + 1)) _ _ _ _ rfl).cells (by omega) hx5⟩
   ·have h := hc5.set 3 (.slice (some ⟨g5, 0, none⟩) (l0.length + 1) cp5)
    rw [← HST.out] at h
    exact h
   ·have h : l0.length ≤ j := HA.out.2.2.1.l1
    simp
    omega
   ·have h : nm.length ≤ j := HA.out.2.2.1.l2
    simp
    try omega
   ·have h : vl.length ≤ j := HA.out.2.2.1.l3
    simp
    try omega
   ·have h : tn.length ≤ j := HA.out.2.2.1.l4
    show tn.length ≤ j + 1
    omega
  have HR := Lib.hid hrel5
  clear hrel5 ho5 hw5 hc5 hx5
  go_wp2_with fail
  go_roundw
  case rel => exact ⟨_, j + 1, _, rfl, rfl, by rw [← HS.out.1], by rw [← HS.out.2.1], rfl, rfl, HR.out⟩
  case measure => simp [RowKit.intOf]; omega
 have bq : ((x : Int) == (q : Int)) = false := by rw [beq_eq_false_iff_ne]; omega
 have hstep : refStep ⟨6, sl, tn, nm, vl, q, l0⟩ x = (⟨6, sl, tn, nm, (vl ++ [x]), q, l0⟩, false) := by simp [refStep, hqq]
 have hTn : refGo N kind ⟨6, sl, tn, nm, (vl ++ [x]), q, l0⟩ (xs.drop (j + 1)) = T := by rw [← HT.out, ref_on hstep]
 have HTn := Lib.hid hTn
 clear hstep hTn
 obtain ⟨hq3, hq2, hf3, hf2⟩ := tg4 HC.out
 have hrel6 : ∀ w6, RInv N kind xs T w ⟨6, sl, tn, nm, vl, q, l0⟩ j (.slice Av nv cv) w6 → RInv N kind xs T w ⟨6, sl, tn, nm, (vl ++ [x]), q, l0⟩ (j + 1) (.slice Av nv cv) w6 := fun w6 h6 => by
  refine ⟨by simp, by omega, h6.hc, h6.ho, ?_, ?_, ?_, ?_, HLQ.out, HTn.out, h6.hb, h6.hx⟩
  all_goals (have h1 := h6.l1; have h2 := h6.l2; have h3 := h6.l3; have h4 := h6.l4; dsimp only at h1 h2 h3 h4 ⊢; first | omega | (simp; omega) | simp)
 have HR := Lib.hid hrel6
 clear hrel6
 go_wp2_with (fail)
 go_roundw
 case rel => exact ⟨_, j + 1, _, rfl, rfl, by rw [← HS.out.1], by rw [HS.out.2.2.2.2.2.1], rfl, rfl, HR.out _ HI.out⟩
 case measure => simp [RowKit.intOf]; omega
theorem refTag_any (b o cap n kind : Nat) (xs : List Nat) (w : World) (hb : BY w w.heap.size xs (some ⟨b, o, none⟩) cap) (hn : n ≤ xs.length) (hl : xs.length ≤ 100000) :
  Calls Tryz.prog 78 #[.slice (some ⟨b, o, none⟩) xs.length cap, .int .i64 (n : Int), .int .i64 (kind : Int)] w (RTOk w (refGo xs.length kind rs0 (xs.drop n))) :=
 refTag_parts.f ⟨refTag_s0⟩ ⟨refTag_s1⟩ ⟨refTag_s2⟩ ⟨refTag_s3⟩ ⟨refTag_s4⟩ ⟨refTag_s5⟩ ⟨refTag_s6⟩ b o cap n kind xs w hb hn hl
end Go.Proofs.YtfafhbgkmlmmdaaGreatDoor.G
