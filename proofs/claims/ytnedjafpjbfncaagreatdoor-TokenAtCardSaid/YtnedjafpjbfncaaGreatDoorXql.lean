/-
  The reference's loop: what is left behind a place.
  Contract: virguleref19.begins.
  Contract, the document's side: Read.
  Contract, the document's side: tag, a state for each byte.
-/
import Derived.Deep.CutRange
import Derived.Test.YtnedjafpjbfncaaGreatDoorXqa
import Derived.Test.YtnedjafpjbfncaaGreatDoorXqb
import Derived.Test.YtnedjafpjbfncaaGreatDoorXqc
import Derived.Test.YtnedjafpjbfncaaGreatDoorXqd
import Derived.Test.YtnedjafpjbfncaaGreatDoorXqe
import Derived.Test.YtnedjafpjbfncaaGreatDoorXqf
import Derived.Test.YtnedjafpjbfncaaGreatDoorXqg
import Derived.Test.YtnedjafpjbfncaaGreatDoorXqh
import Derived.Test.YtnedjafpjbfncaaGreatDoorXqi
import Derived.Test.YtnedjafpjbfncaaGreatDoorXqj
import Derived.Test.YtnedjafpjbfncaaGreatDoorXqk
namespace Go.Proofs.YtnedjafpjbfncaaGreatDoor.G
open Go.RowKit Go.Shelf Go.Lib Go.Maps Go.Sort

def OwnR (w : World) (base : Nat) (l : List AT) (v : Value) : Prop := w.ownsRow base 96 2 v l.length (attsC l)
theorem OwnR.below {w w' : World} {base : Nat} {l : List AT} {v : Value} (h : OwnR w base l v) (hb : Below w.heap.size w w') : OwnR w' base l v := ownsRow_below h hb
theorem OwnR.fz {w w' : World} {base : Nat} {l : List AT} {v : Value} {X : Nat → Prop} (h : OwnR w base l v) (hf : Fz X w w') (hX : ∀ k, base ≤ k → ¬ X k) : OwnR w' base l v :=
  own_fz hf h (fun k hk e => hX k (own_block_lt h k e).1 hk)
theorem OwnR.set {w : World} {base : Nat} {l : List AT} {v : Value} (h : OwnR w base l v) {j : Nat} (hj : j < base) (i : Nat) (x : Value) : OwnR (w.setCell ⟨j, i, none⟩ x) base l v :=
  h.fz (Fz.set (X := (· = j)) _ _ _ _ rfl) (fun k hk e => by omega)
theorem ownR_nil (w : World) (base : Nat) : OwnR w base [] (.slice none 0 0) := ⟨rfl, .inl ⟨rfl, rfl⟩⟩
theorem OwnR.slice {w : World} {base : Nat} {l : List AT} {v : Value} (h : OwnR w base l v) : ∃ A n c, v = .slice A n c := by
  rcases h.2 with ⟨h0, _⟩ | ⟨g, cap, cur, h1, _⟩
  · exact ⟨none, 0, 0, h0⟩
  · exact ⟨_, _, _, h1⟩
theorem info39 : (Tryz.prog.info? 96).map (fun i => (i.zero, i.size, i.bytes)) = some (some (.agg #[.string ⟨#[]⟩, .string ⟨#[]⟩]), 2, 32) := by kernel_rfl
/-- One attribute more. -/
theorem wpList_appR {ops : Array Oper} {rest : List Oper} {o : Oper} {a : Act} {w : World} {Q : Exit → Act → World → Prop} (hgd : o.guard = none) (s x : Operand)
    (ho : o.op = .call { callee := .builtin .append, args := #[s, x], argTypes := #[54, 54] }) (base : Nat) (v : Value) (l : List AT) (a1 : AT) (hs : a.eval s = v) (w0 : World) (h0 : OwnR w0 base l v) (hw0 : w0.alloc (.cells #[strV a1.1, strV a1.2] 96) = w)
    (hx : a.eval x = .slice (some ⟨w0.heap.size, 0, none⟩) 1 1) (h63 : l.length ≤ 1000000) (hbase : base ≤ w0.heap.size)
    (h : ∀ g cap w', OwnR w' base (l ++ [a1]) (.slice (some ⟨g, 0, none⟩) (l.length + 1) cap) → Below base w0 w' → wpList Tryz.prog ops Q rest (a.put o.dst (.slice (some ⟨g, 0, none⟩) (l.length + 1) cap)) w') : wpList Tryz.prog ops Q (o :: rest) a w := by
  obtain ⟨i, hi, hz, hs1, hb1⟩ := info_parts info39
  subst hw0
  have al := below_new w0 (.cells #[strV a1.1, strV a1.2] 96)
  have hown := h0.below al
  have hsz : base ≤ (w0.alloc (.cells #[strV a1.1, strV a1.2] 96)).heap.size := by rw [World.size_alloc]; omega
  refine wpList_append_lies _ hgd s x 54 ho base 96 i _ 2 32 Tryz.underlying54 hi hz hs1 hb1 (by decide) (by decide) v l.length (attsC l) hs hown ⟨w0.heap.size, 0, none⟩ 1 1 [strV a1.1, strV a1.2] hx rfl (World.news_of_block (heap_alloc_new w0 _)) (fun u hu => ?_) (by decide) (by unfold maxLen; omega) (by omega) hsz _ rfl ?_
  · simp at hu
    rcases hu with rfl | rfl <;> rfl
  · intro g cap w' h1 h2 _ _
    refine h g cap w' ?_ ?_
    · unfold OwnR
      rw [attsC_snoc, List.length_append]
      exact h1
    · refine (al.mono hbase).trans ⟨h2.os, h2.tape, h2.output, h2.size, fun k hk => h2.block k (by omega) (fun e => by have := (own_block_lt hown k e.symm).1; omega)⟩
/-- What the document's tag answers. -/
def RTOk (w : World) (T : TG) (e : Ending) (w' : World) : Prop := ∃ v, e = .returned (tagV T v) ∧ OwnR w' w.heap.size T.attrs v ∧ Below w.heap.size w w'
def tagCs (kind : Nat) (S : ByteArray) (v : Value) : Array Value := #[.int .i64 (kind : Int), .int .i64 0, .string S, v, .bool false, .bool false]
/-- The state, and what is in memory. -/
structure RInv (N kind : Nat) (xs : List Nat) (T : TG) (w : World) (s : RS) (j : Nat) (v : Value) (wr : World) : Prop where
  h6 : s.st ≤ 6
  hj : j ≤ N
  hc : Cells wr (w.heap.size + 1) 56 (tagCs kind ⟨(u8s s.tn).toArray⟩ v)
  ho : OwnR wr (w.heap.size + 1 + 1) s.«atl» v
  l1 : s.«atl».length ≤ j
  l2 : s.nm.length ≤ j
  l3 : s.vl.length ≤ j
  l4 : s.tn.length ≤ j
  lq : s.q < 256
  hT : refGo N kind s (xs.drop j) = T
  hb : Below w.heap.size w wr
  hx : Cells wr w.heap.size 56 #[.int .i64 0, .int .i64 0, .string ⟨#[]⟩, .slice none 0 0, .bool false, .bool false]
def RRel (N kind : Nat) (xs : List Nat) (T : TG) (w : World) (st sl nm vl q i : Value) (wr : World) : Prop := ∃ (s : RS) (j : Nat) (v : Value), st = .int .i64 (s.st : Int) ∧ sl = .bool s.slash ∧ nm = .string ⟨(u8s s.nm).toArray⟩ ∧ vl = .string ⟨(u8s s.vl).toArray⟩ ∧ q = .int .u8 (s.q : Int) ∧ i = .int .i64 (j : Int) ∧ RInv N kind xs T w s j v wr
theorem slice_one (b o len cap l : Nat) (hc : l < cap) (W : World) :
    (Instr.slice 22 (.slice (some ⟨b, o, none⟩) len cap) (some (.int .i64 (l : Int))) (some (.int .i64 ((l : Int) + 1))) none).run Tryz.prog W = .ok (.slice (some ⟨b, o + l, none⟩) 1 (cap - l)) W := by
  have := slice_win b o len cap l (l + 1) (by omega) (by omega) hc W
  rw [show l + 1 - l = 1 by omega] at this
  exact this
theorem str_size (l : List Nat) {n : Nat} (h : l.length ≤ n) : (⟨(u8s l).toArray⟩ : ByteArray).size ≤ n := by rw [size_str]; exact h
theorem RInv.on {N kind : Nat} {xs : List Nat} {T : TG} {w : World} {s : RS} {j : Nat} {v : Value} {wr wr' : World} (h : RInv N kind xs T w s j v wr) (hb : Below wr.heap.size wr wr') : RInv N kind xs T w s j v wr' :=
  ⟨h.h6, h.hj, h.hc.on hb, h.ho.below hb, h.l1, h.l2, h.l3, h.l4, h.lq, h.hT, h.hb.trans (hb.mono h.hb.size), h.hx.on hb⟩
structure Side (P : Prop) : Prop where
  out : P
/-- The round, a state each: what is left to walk. -/
structure Parts (C : Prop) where
  T0 : Prop
  T1 : Prop
  T2 : Prop
  T3 : Prop
  T4 : Prop
  T5 : Prop
  T6 : Prop
  f : Side T0 → Side T1 → Side T2 → Side T3 → Side T4 → Side T5 → Side T6 → C
set_option maxHeartbeats 40000000 in
set_option maxRecDepth 100000 in
def refTag_parts : Parts (∀ (b o cap n kind : Nat) (xs : List Nat) (w : World) (_hb : BY w w.heap.size xs (some ⟨b, o, none⟩) cap) (_hn : n ≤ xs.length) (_hl : xs.length ≤ 100000), Calls Tryz.prog 39 #[.slice (some ⟨b, o, none⟩) xs.length cap, .int .i64 (n : Int), .int .i64 (kind : Int)] w (RTOk w (refGo xs.length kind rs0 (xs.drop n)))) := ⟨_, _, _, _, _, _, _, fun H0 H1 H2 H3 H4 H5 H6 b o cap n kind xs w hb hn hl => by
  obtain ⟨T, hT⟩ : ∃ T, refGo xs.length kind rs0 (xs.drop n) = T := ⟨_, rfl⟩
  rw [hT]
  have hok : ∀ (T' : TG) v w', T' = T → OwnR w' (w.heap.size + 1 + 1) T'.attrs v → Below w.heap.size w w' → RTOk w T (.returned (tagV T' v)) w' := fun T' v w' h1 h2 h3 => by
    subst h1
    exact ⟨v, rfl, ownsRow_base h2 (by omega), h3⟩
  obtain ⟨Q, hQ⟩ : ∃ Q, RTOk w T = Q := ⟨_, rfl⟩
  rw [hQ] at hok ⊢
  have hcap := hb.l
  have hlen := hb.len
  have W1b : Below w.heap.size w ((w.alloc (.cells #[.int .i64 0, .int .i64 0, .string ⟨#[]⟩, .slice none 0 0, .bool false, .bool false] 56)).alloc (.cells (tagCs kind ⟨#[]⟩ (.slice none 0 0)) 56)) := (below_new _ _).trans ((below_new _ _).mono (by simp))
  have W1c := cells_new (w.alloc (.cells #[.int .i64 0, .int .i64 0, .string ⟨#[]⟩, .slice none 0 0, .bool false, .bool false] 56)) (tagCs kind ⟨#[]⟩ (.slice none 0 0)) 56
  rw [World.size_alloc] at W1c
  have W1x : Cells ((w.alloc (.cells #[.int .i64 0, .int .i64 0, .string ⟨#[]⟩, .slice none 0 0, .bool false, .bool false] 56)).alloc (.cells (tagCs kind ⟨#[]⟩ (.slice none 0 0)) 56)) w.heap.size 56 #[.int .i64 0, .int .i64 0, .string ⟨#[]⟩, .slice none 0 0, .bool false, .bool false] := (cells_new w _ _).on (below_new _ _)
  have hst : RRel xs.length kind xs T w (.int .i64 0) (.bool false) (.string ⟨#[]⟩) (.string ⟨#[]⟩) (.int .u8 0) (.int .i64 (n : Int)) _ := ⟨rs0, n, .slice none 0 0, rfl, rfl, rfl, rfl, rfl, rfl, ⟨Nat.zero_le _, hn, W1c, ownR_nil _ _, Nat.zero_le _, Nat.zero_le _, Nat.zero_le _, Nat.zero_le _, by decide, hT, W1b, W1x⟩⟩
  have CB := fun W c => blank_any c W
  have CL := fun W x (hx : x < 256) => refLower_any [x] (by simpa using hx) (by simp) W
  unfold strV at CL
  obtain ⟨N, hN⟩ : ∃ N, xs.length = N := ⟨_, rfl⟩
  rw [hN] at hst hn hl hlen hcap ⊢
  have HH := Lib.hid (And.intro hst (And.intro CB (And.intro CL (And.intro hok (And.intro hb (And.intro hN hl))))))
  clear hst CB CL hok hb hN hl hT hQ W1b W1c W1x
  unfold tagCs at HH
  go_enter Tryz.func39, Tryz.ntmps39
  go_wp2_with fail
  go_loopw [8, 9, 10, 11, 12, 13] (fun st sl nm vl q i wr => RRel N kind xs T w st sl nm vl q i wr) (fun _ _ _ _ _ i _ => N - (RowKit.intOf i).toNat)
  case atStart => exact HH.out.1
  case round =>
    obtain ⟨⟨st, sl, tn, nm, vl, q, l0⟩, j, v, rfl, rfl, rfl, rfl, rfl, rfl, hI⟩ := hrel
    obtain ⟨Av, nv, cv, rfl⟩ := hI.ho.slice
    have h6 : st ≤ 6 := hI.h6
    have hj := hI.hj
    have lq : q < 256 := hI.lq
    dsimp only
    have z1 := hI.hc.lt
    have z0 := hI.hx.lt
    by_cases hlt : j < N
    case neg =>
      obtain rfl : j = N := by omega
      have hT := hI.hT
      rw [List.drop_of_length_le (by rw [HH.out.2.2.2.2.2.1]; exact Nat.le_refl _)] at hT
      have hT : refEnd j kind ⟨st, sl, tn, nm, vl, q, l0⟩ = T := hT
      obtain ⟨ST, hST⟩ : ∃ S : ByteArray, ⟨(u8s tn).toArray⟩ = S := ⟨_, rfl⟩
      have hc : Cells wr (w.heap.size + 1) 56 (tagCs kind ⟨(u8s tn).toArray⟩ (.slice Av nv cv)) := hI.hc
      rw [hST] at hc
      have HST := Lib.hid hST
      by_cases h2 : 2 ≤ st
      case neg =>

        have hTT : (⟨kind, j, tn, l0, false, false⟩ : TG) = T := by rw [← hT, refEnd, if_neg h2]
        have i2 : ¬ (2 : Int) ≤ (st : Int) := by omega
        have q0 := (hc).cell 0
        have fr0 := (hc).froz 0
        have s0 := (hI.hx).cell 0
        have t0 := (hI.hx).froz 0
        have q1 := (hc).cell 1
        have fr1 := (hc).froz 1
        have s1 := (hI.hx).cell 1
        have t1 := (hI.hx).froz 1
        have q2 := (hc).cell 2
        have fr2 := (hc).froz 2
        have s2 := (hI.hx).cell 2
        have t2 := (hI.hx).froz 2
        have q3 := (hc).cell 3
        have fr3 := (hc).froz 3
        have s3 := (hI.hx).cell 3
        have t3 := (hI.hx).froz 3
        have q4 := (hc).cell 4
        have fr4 := (hc).froz 4
        have s4 := (hI.hx).cell 4
        have t4 := (hI.hx).froz 4
        have q5 := (hc).cell 5
        have fr5 := (hc).froz 5
        have s5 := (hI.hx).cell 5
        have t5 := (hI.hx).froz 5
        simp [tagCs] at q0 q1 q2 q3 q4 q5 s0 s1 s2 s3 s4 s5
        have hoR : OwnR wr (w.heap.size + 1 + 1) l0 (.slice Av nv cv) := hI.ho
        have HF := Lib.hid (And.intro hoR hI.hb)
        have HTT := Lib.hid hTT
        clear hT hc hTT hI hST h2 hoR h6
        generalize (st : Int) = SI at *
        go_wp2_with fail
        refine bodyPost_ret (v := .agg #[.int .i64 (kind : Int), .int .i64 (j : Int), .string ST, .slice Av nv cv, .bool false, .bool false]) ?_ rfl ?_
        · simp [results, Tryz.results39, go_sem, s0, s1, s2, s3, s4, s5]
        · have h := HH.out.2.2.2.1 _ (.slice Av nv cv) _ HTT.out (((((((HF.out.1.set (j := w.heap.size + 1) (by omega) 1 (.int .i64 (j : Int))).set (j := w.heap.size) (by omega) 0 (.int .i64 (kind : Int))).set (j := w.heap.size) (by omega) 1 (.int .i64 (j : Int))).set (j := w.heap.size) (by omega) 2 (.string ST)).set (j := w.heap.size) (by omega) 3 (.slice Av nv cv)).set (j := w.heap.size) (by omega) 4 (.bool false)).set (j := w.heap.size) (by omega) 5 (.bool false)) (((((((HF.out.2.setc (j := w.heap.size + 1) (by omega) 1 (.int .i64 (j : Int))).setc (j := w.heap.size) (by omega) 0 (.int .i64 (kind : Int))).setc (j := w.heap.size) (by omega) 1 (.int .i64 (j : Int))).setc (j := w.heap.size) (by omega) 2 (.string ST)).setc (j := w.heap.size) (by omega) 3 (.slice Av nv cv)).setc (j := w.heap.size) (by omega) 4 (.bool false)).setc (j := w.heap.size) (by omega) 5 (.bool false))
          unfold tagV strV at h
          dsimp only at h
          rw [HST.out] at h
          exact h
      case pos =>

        have hTT : (⟨kind, j, tn, l0 ++ [(nm, vl)], false, false⟩ : TG) = T := by rw [← hT, refEnd, if_pos h2]
        have i2 : (2 : Int) ≤ (st : Int) := by omega
        have HTT := Lib.hid hTT
        have HC := Lib.hid hc
        have hq3 := hc.cell 3
        simp [tagCs] at hq3
        obtain ⟨SN, hSN⟩ : ∃ S : ByteArray, ⟨(u8s nm).toArray⟩ = S := ⟨_, rfl⟩
        obtain ⟨SV, hSV⟩ : ∃ S : ByteArray, ⟨(u8s vl).toArray⟩ = S := ⟨_, rfl⟩
        have hw0 : wr.alloc (.cells #[strV ((nm, vl) : AT).1, strV ((nm, vl) : AT).2] 96) = wr.alloc (.cells #[.string SN, .string SV] 96) := by
          unfold strV
          dsimp only
          rw [hSN, hSV]
        rw [hSN, hSV]
        clear hT hc hTT hST h2 h6 hSN hSV
        generalize (st : Int) = SI at *
        have hoR : OwnR wr (w.heap.size + 1 + 1) l0 (.slice Av nv cv) := hI.ho
        have hll : l0.length ≤ 1000000 := by have h1 : l0.length ≤ j := hI.l1; have h2 := HH.out.2.2.2.2.2.2; omega
        have HA := Lib.hid (And.intro hoR (And.intro hll (And.intro hI hw0)))
        clear hoR hll hI hw0
        go_wp2_with (first
          | (at_builtin
             refine wpList_appR rfl (.tmp 193) (.tmp 197) rfl (w.heap.size + 1 + 1) _ l0 ((nm, vl) : AT) rfl wr HA.out.1 HA.out.2.2.2 rfl HA.out.2.1 (by omega) ?_)
          | fail)
        intro g5 cp5 w5 ho5 hb5
        have hw5 : Below w.heap.size w w5 := HA.out.2.2.1.hb.trans ⟨hb5.os, hb5.tape, hb5.output, hb5.size, fun k hk => hb5.block k (by omega)⟩
        have hc5 : Cells w5 (w.heap.size + 1) 56 (tagCs kind ST (.slice Av nv cv)) := (hb5.block _ (by omega)).trans (show wr.heap[w.heap.size + 1]? = _ from HC.out)
        have hx5 : Cells w5 w.heap.size 56 #[.int .i64 0, .int .i64 0, .string ⟨#[]⟩, .slice none 0 0, .bool false, .bool false] := (hb5.block _ (by omega)).trans (show wr.heap[w.heap.size]? = _ from HA.out.2.2.1.hx)
        clear hb5
        have q0 := (hc5).cell 0
        have fr0 := (hc5).froz 0
        have s0 := (hx5).cell 0
        have t0 := (hx5).froz 0
        have q1 := (hc5).cell 1
        have fr1 := (hc5).froz 1
        have s1 := (hx5).cell 1
        have t1 := (hx5).froz 1
        have q2 := (hc5).cell 2
        have fr2 := (hc5).froz 2
        have s2 := (hx5).cell 2
        have t2 := (hx5).froz 2
        have q3 := (hc5).cell 3
        have fr3 := (hc5).froz 3
        have s3 := (hx5).cell 3
        have t3 := (hx5).froz 3
        have q4 := (hc5).cell 4
        have fr4 := (hc5).froz 4
        have s4 := (hx5).cell 4
        have t4 := (hx5).froz 4
        have q5 := (hc5).cell 5
        have fr5 := (hc5).froz 5
        have s5 := (hx5).cell 5
        have t5 := (hx5).froz 5
        simp [tagCs] at q0 q1 q2 q3 q4 q5 s0 s1 s2 s3 s4 s5
        have ho6 := ho5.set (j := w.heap.size + 1) (by omega) 3 (.slice (some ⟨g5, 0, none⟩) (l0.length + 1) cp5)
        have hb6 := hw5.setc (j := w.heap.size + 1) (by omega) 3 (.slice (some ⟨g5, 0, none⟩) (l0.length + 1) cp5)
        have HF := Lib.hid (And.intro ho6 hb6)
        clear ho5 hw5 hc5 hx5 ho6 hb6
        clear hq3
        go_wp2_with fail
        refine bodyPost_ret (v := .agg #[.int .i64 (kind : Int), .int .i64 (j : Int), .string ST, .slice (some ⟨g5, 0, none⟩) (l0.length + 1) cp5, .bool false, .bool false]) ?_ rfl ?_
        · simp [results, Tryz.results39, go_sem, s0, s1, s2, s3, s4, s5]
        · have h := HH.out.2.2.2.1 _ (.slice (some ⟨g5, 0, none⟩) (l0.length + 1) cp5) _ HTT.out (((((((HF.out.1.set (j := w.heap.size + 1) (by omega) 1 (.int .i64 (j : Int))).set (j := w.heap.size) (by omega) 0 (.int .i64 (kind : Int))).set (j := w.heap.size) (by omega) 1 (.int .i64 (j : Int))).set (j := w.heap.size) (by omega) 2 (.string ST)).set (j := w.heap.size) (by omega) 3 (.slice (some ⟨g5, 0, none⟩) (l0.length + 1) cp5)).set (j := w.heap.size) (by omega) 4 (.bool false)).set (j := w.heap.size) (by omega) 5 (.bool false)) (((((((HF.out.2.setc (j := w.heap.size + 1) (by omega) 1 (.int .i64 (j : Int))).setc (j := w.heap.size) (by omega) 0 (.int .i64 (kind : Int))).setc (j := w.heap.size) (by omega) 1 (.int .i64 (j : Int))).setc (j := w.heap.size) (by omega) 2 (.string ST)).setc (j := w.heap.size) (by omega) 3 (.slice (some ⟨g5, 0, none⟩) (l0.length + 1) cp5)).setc (j := w.heap.size) (by omega) 4 (.bool false)).setc (j := w.heap.size) (by omega) 5 (.bool false))
          unfold tagV strV at h
          dsimp only at h
          rw [HST.out] at h
          exact h
    case pos =>
      have i1 : (j : Int) < (N : Int) := by omega
      obtain ⟨x, hx⟩ := at_lt (l := xs) (k := j) (by rw [HH.out.2.2.2.2.2.1]; exact hlt)
      have hx256 := HH.out.2.2.2.2.1.lt hx
      have hbr := HH.out.2.2.2.2.1.below hI.hb
      obtain ⟨b', o', e', _, d0⟩ := hbr.at hx
      obtain ⟨rfl, rfl⟩ : b = b' ∧ o = o' := by simpa using e'
      have hsl := fun W => slice_one b o N cap j (by omega) W
      have hcv : (convert 22 9 (.slice (some ⟨b, o + j, none⟩) 1 (cap - j))).run Tryz.prog wr = .ok (.string ⟨(u8s [x]).toArray⟩) wr := by
        have h := (hbr.dropL (k := j) (by rw [HH.out.2.2.2.2.2.1]; omega)).take 1
        rw [drop_at hx] at h
        exact conv_by h
      have e1 : IntKind.i64.wrap ((j : Int) + 1) = (j : Int) + 1 := IntWalk.i64_in _ (by omega)
      have hT := hI.hT
      rw [drop_at hx] at hT
      have hdl : N - (xs.drop (j + 1)).length = j + 1 := by rw [List.length_drop, HH.out.2.2.2.2.2.1]; omega
      have CLx := fun W => HH.out.2.2.1 W x hx256
      have hlx : lowL [x] = [lowN x] := rfl
      rw [hlx] at CLx
      obtain ⟨ST, hST⟩ : ∃ S : ByteArray, ⟨(u8s tn).toArray⟩ = S := ⟨_, rfl⟩
      have hc : Cells wr (w.heap.size + 1) 56 (tagCs kind ⟨(u8s tn).toArray⟩ (.slice Av nv cv)) := hI.hc
      rw [hST] at hc
      have hzn : (⟨(u8s nm).toArray⟩ : ByteArray).size ≤ j := str_size nm hI.l2
      have hzv : (⟨(u8s vl).toArray⟩ : ByteArray).size ≤ j := str_size vl hI.l3
      have hzt : ST.size ≤ j := by rw [← hST]; exact str_size tn hI.l4
      have hz1 : (⟨(u8s [x]).toArray⟩ : ByteArray).size = 1 := size_str _
      have hz2 : (⟨(u8s [lowN x]).toArray⟩ : ByteArray).size = 1 := size_str _
      have han := app_str nm [lowN x]
      have hav := app_str vl [x]
      have hatn := app_str tn [lowN x]
      rw [hST] at hatn
      obtain ⟨SN, hSN⟩ : ∃ S : ByteArray, ⟨(u8s nm).toArray⟩ = S := ⟨_, rfl⟩
      obtain ⟨SV, hSV⟩ : ∃ S : ByteArray, ⟨(u8s vl).toArray⟩ = S := ⟨_, rfl⟩
      obtain ⟨SX, hSX⟩ : ∃ S : ByteArray, ⟨(u8s [x]).toArray⟩ = S := ⟨_, rfl⟩
      obtain ⟨SL, hSL⟩ : ∃ S : ByteArray, ⟨(u8s [lowN x]).toArray⟩ = S := ⟨_, rfl⟩
      rw [hSN] at hzn han
      rw [hSV] at hzv hav
      rw [hSX] at hz1 hav hcv
      rw [hSX, hSL] at CLx
      rw [hSL] at hz2 han hatn
      rw [hSN, hSV]
      have HS := Lib.hid (And.intro hSN (And.intro hSV (And.intro hSX (And.intro hSL (And.intro han (And.intro hav hatn))))))
      have HST := Lib.hid hST
      have HC := Lib.hid hc
      have HCL := Lib.hid CLx
      have HT := Lib.hid hT
      have HI := Lib.hid hI
      have HD := Lib.hid (And.intro hdl (And.intro hx hx256))
      have CBx := Lib.hid (fun W => HH.out.2.1 W x)
      have HLQ := Lib.hid lq
      clear hSN hSV hSX hSL han hav hatn hST hc CLx hT hI hdl hx hx256 e' hbr hlx lq
      go_upto_region 13 with fail
      clear d0 hsl hcv e1 i1
      rcases (show st = 0 ∨ st = 1 ∨ st = 2 ∨ st = 3 ∨ st = 4 ∨ st = 5 ∨ st = 6 by omega) with rfl | rfl | rfl | rfl | rfl | rfl | rfl
      · clear h6
        rename_i K0 a0 left0 K1 K2 K3 Q9 a1 a2 a3
        revert b o cap n kind xs w T Q N K0 wr sl tn nm vl q l0 j Av nv cv x ST SN SV SX SL K1 K2 K3 Q9 u14 u15 u16 u20 u21 u22 u23 u24 u25 u26 u27 u28 u29 u30 u31 u32 u33 u34 u35 u36 u37 u38 u39 u40 u41 u42 u43 u44 u45 u46 u47 u48 u49 u50 u51 u52 u53 u54 u55 u56 u57 u58 u59 u60 u61 u62 u63 u64 u65 u66 u67 u68 u69 u70 u71 u72 u73 u74 u75 u76 u77 u78 u79 u80 u81 u82 u83 u84 u85 u86 u87 u88 u89 u90 u91 u92 u93 u94 u95 u96 u97 u98 u99 u100 u101 u102 u103 u104 u105 u106 u107 u108 u109 u110 u111 u112 u113 u114 u115 u116 u117 u118 u119 u120 u121 u122 u123 u124 u125 u126 u127 u128 u129 u130 u131 u132 u133 u134 u135 u136 u137 u138 u139 u140 u141 u142 u143 u144 u145 u146 u147 u148 u149 u150 u151 u152 u153 u154 u155 u156 u157 u158 u159 u160 u161 u162 u163 u164 u165 u166 u167 u168 u169 u170 u171 u172 u173 u174 u175 u176 u177 u178 u179 u180 u181 u182 u183 u184 u185 u186 u187 u188 u189
        exact H0.out
      · clear h6
        rename_i K0 a0 left0 K1 K2 K3 Q9 a1 a2 a3
        revert b o cap n kind xs w T Q N K0 wr sl tn nm vl q l0 j Av nv cv x ST SN SV SX SL K1 K2 K3 Q9 u14 u15 u16 u20 u21 u22 u23 u24 u25 u26 u27 u28 u29 u30 u31 u32 u33 u34 u35 u36 u37 u38 u39 u40 u41 u42 u43 u44 u45 u46 u47 u48 u49 u50 u51 u52 u53 u54 u55 u56 u57 u58 u59 u60 u61 u62 u63 u64 u65 u66 u67 u68 u69 u70 u71 u72 u73 u74 u75 u76 u77 u78 u79 u80 u81 u82 u83 u84 u85 u86 u87 u88 u89 u90 u91 u92 u93 u94 u95 u96 u97 u98 u99 u100 u101 u102 u103 u104 u105 u106 u107 u108 u109 u110 u111 u112 u113 u114 u115 u116 u117 u118 u119 u120 u121 u122 u123 u124 u125 u126 u127 u128 u129 u130 u131 u132 u133 u134 u135 u136 u137 u138 u139 u140 u141 u142 u143 u144 u145 u146 u147 u148 u149 u150 u151 u152 u153 u154 u155 u156 u157 u158 u159 u160 u161 u162 u163 u164 u165 u166 u167 u168 u169 u170 u171 u172 u173 u174 u175 u176 u177 u178 u179 u180 u181 u182 u183 u184 u185 u186 u187 u188 u189
        exact H1.out
      · clear h6
        rename_i K0 a0 left0 K1 K2 K3 Q9 a1 a2 a3
        revert b o cap n kind xs w T Q N K0 wr sl tn nm vl q l0 j Av nv cv x ST SN SV SX SL K1 K2 K3 Q9 u14 u15 u16 u20 u21 u22 u23 u24 u25 u26 u27 u28 u29 u30 u31 u32 u33 u34 u35 u36 u37 u38 u39 u40 u41 u42 u43 u44 u45 u46 u47 u48 u49 u50 u51 u52 u53 u54 u55 u56 u57 u58 u59 u60 u61 u62 u63 u64 u65 u66 u67 u68 u69 u70 u71 u72 u73 u74 u75 u76 u77 u78 u79 u80 u81 u82 u83 u84 u85 u86 u87 u88 u89 u90 u91 u92 u93 u94 u95 u96 u97 u98 u99 u100 u101 u102 u103 u104 u105 u106 u107 u108 u109 u110 u111 u112 u113 u114 u115 u116 u117 u118 u119 u120 u121 u122 u123 u124 u125 u126 u127 u128 u129 u130 u131 u132 u133 u134 u135 u136 u137 u138 u139 u140 u141 u142 u143 u144 u145 u146 u147 u148 u149 u150 u151 u152 u153 u154 u155 u156 u157 u158 u159 u160 u161 u162 u163 u164 u165 u166 u167 u168 u169 u170 u171 u172 u173 u174 u175 u176 u177 u178 u179 u180 u181 u182 u183 u184 u185 u186 u187 u188 u189
        exact H2.out
      · clear h6
        rename_i K0 a0 left0 K1 K2 K3 Q9 a1 a2 a3
        revert b o cap n kind xs w T Q N K0 wr sl tn nm vl q l0 j Av nv cv x ST SN SV SX SL K1 K2 K3 Q9 u14 u15 u16 u20 u21 u22 u23 u24 u25 u26 u27 u28 u29 u30 u31 u32 u33 u34 u35 u36 u37 u38 u39 u40 u41 u42 u43 u44 u45 u46 u47 u48 u49 u50 u51 u52 u53 u54 u55 u56 u57 u58 u59 u60 u61 u62 u63 u64 u65 u66 u67 u68 u69 u70 u71 u72 u73 u74 u75 u76 u77 u78 u79 u80 u81 u82 u83 u84 u85 u86 u87 u88 u89 u90 u91 u92 u93 u94 u95 u96 u97 u98 u99 u100 u101 u102 u103 u104 u105 u106 u107 u108 u109 u110 u111 u112 u113 u114 u115 u116 u117 u118 u119 u120 u121 u122 u123 u124 u125 u126 u127 u128 u129 u130 u131 u132 u133 u134 u135 u136 u137 u138 u139 u140 u141 u142 u143 u144 u145 u146 u147 u148 u149 u150 u151 u152 u153 u154 u155 u156 u157 u158 u159 u160 u161 u162 u163 u164 u165 u166 u167 u168 u169 u170 u171 u172 u173 u174 u175 u176 u177 u178 u179 u180 u181 u182 u183 u184 u185 u186 u187 u188 u189
        exact H3.out
      · clear h6
        rename_i K0 a0 left0 K1 K2 K3 Q9 a1 a2 a3
        revert b o cap n kind xs w T Q N K0 wr sl tn nm vl q l0 j Av nv cv x ST SN SV SX SL K1 K2 K3 Q9 u14 u15 u16 u20 u21 u22 u23 u24 u25 u26 u27 u28 u29 u30 u31 u32 u33 u34 u35 u36 u37 u38 u39 u40 u41 u42 u43 u44 u45 u46 u47 u48 u49 u50 u51 u52 u53 u54 u55 u56 u57 u58 u59 u60 u61 u62 u63 u64 u65 u66 u67 u68 u69 u70 u71 u72 u73 u74 u75 u76 u77 u78 u79 u80 u81 u82 u83 u84 u85 u86 u87 u88 u89 u90 u91 u92 u93 u94 u95 u96 u97 u98 u99 u100 u101 u102 u103 u104 u105 u106 u107 u108 u109 u110 u111 u112 u113 u114 u115 u116 u117 u118 u119 u120 u121 u122 u123 u124 u125 u126 u127 u128 u129 u130 u131 u132 u133 u134 u135 u136 u137 u138 u139 u140 u141 u142 u143 u144 u145 u146 u147 u148 u149 u150 u151 u152 u153 u154 u155 u156 u157 u158 u159 u160 u161 u162 u163 u164 u165 u166 u167 u168 u169 u170 u171 u172 u173 u174 u175 u176 u177 u178 u179 u180 u181 u182 u183 u184 u185 u186 u187 u188 u189
        exact H4.out
      · clear h6
        rename_i K0 a0 left0 K1 K2 K3 Q9 a1 a2 a3
        revert b o cap n kind xs w T Q N K0 wr sl tn nm vl q l0 j Av nv cv x ST SN SV SX SL K1 K2 K3 Q9 u14 u15 u16 u20 u21 u22 u23 u24 u25 u26 u27 u28 u29 u30 u31 u32 u33 u34 u35 u36 u37 u38 u39 u40 u41 u42 u43 u44 u45 u46 u47 u48 u49 u50 u51 u52 u53 u54 u55 u56 u57 u58 u59 u60 u61 u62 u63 u64 u65 u66 u67 u68 u69 u70 u71 u72 u73 u74 u75 u76 u77 u78 u79 u80 u81 u82 u83 u84 u85 u86 u87 u88 u89 u90 u91 u92 u93 u94 u95 u96 u97 u98 u99 u100 u101 u102 u103 u104 u105 u106 u107 u108 u109 u110 u111 u112 u113 u114 u115 u116 u117 u118 u119 u120 u121 u122 u123 u124 u125 u126 u127 u128 u129 u130 u131 u132 u133 u134 u135 u136 u137 u138 u139 u140 u141 u142 u143 u144 u145 u146 u147 u148 u149 u150 u151 u152 u153 u154 u155 u156 u157 u158 u159 u160 u161 u162 u163 u164 u165 u166 u167 u168 u169 u170 u171 u172 u173 u174 u175 u176 u177 u178 u179 u180 u181 u182 u183 u184 u185 u186 u187 u188 u189
        exact H5.out
      · clear h6
        rename_i K0 a0 left0 K1 K2 K3 Q9 a1 a2 a3
        revert b o cap n kind xs w T Q N K0 wr sl tn nm vl q l0 j Av nv cv x ST SN SV SX SL K1 K2 K3 Q9 u14 u15 u16 u20 u21 u22 u23 u24 u25 u26 u27 u28 u29 u30 u31 u32 u33 u34 u35 u36 u37 u38 u39 u40 u41 u42 u43 u44 u45 u46 u47 u48 u49 u50 u51 u52 u53 u54 u55 u56 u57 u58 u59 u60 u61 u62 u63 u64 u65 u66 u67 u68 u69 u70 u71 u72 u73 u74 u75 u76 u77 u78 u79 u80 u81 u82 u83 u84 u85 u86 u87 u88 u89 u90 u91 u92 u93 u94 u95 u96 u97 u98 u99 u100 u101 u102 u103 u104 u105 u106 u107 u108 u109 u110 u111 u112 u113 u114 u115 u116 u117 u118 u119 u120 u121 u122 u123 u124 u125 u126 u127 u128 u129 u130 u131 u132 u133 u134 u135 u136 u137 u138 u139 u140 u141 u142 u143 u144 u145 u146 u147 u148 u149 u150 u151 u152 u153 u154 u155 u156 u157 u158 u159 u160 u161 u162 u163 u164 u165 u166 u167 u168 u169 u170 u171 u172 u173 u174 u175 u176 u177 u178 u179 u180 u181 u182 u183 u184 u185 u186 u187 u188 u189
        exact H6.out⟩
set_option maxHeartbeats 40000000 in
set_option maxRecDepth 100000 in
theorem refTag_s0 : refTag_parts.T0 := by
  intro b o cap n kind xs w T Q N hcap hlen hn HH K0 a0 wr u14 u15 u16 u20 u21 u22 u23 u24 u25 u26 u27 u28 u29 u30 u31 u32 u33 u34 u35 u36 u37 u38 u39 u40 u41 u42 u43 u44 u45 u46 u47 u48 u49 u50 u51 u52 u53 u54 u55 u56 u57 u58 u59 u60 u61 u62 u63 u64 u65 u66 u67 u68 u69 u70 u71 u72 u73 u74 u75 u76 u77 u78 u79 u80 u81 u82 u83 u84 u85 u86 u87 u88 u89 u90 u91 u92 u93 u94 u95 u96 u97 u98 u99 u100 u101 u102 u103 u104 u105 u106 u107 u108 u109 u110 u111 u112 u113 u114 u115 u116 u117 u118 u119 u120 u121 u122 u123 u124 u125 u126 u127 u128 u129 u130 u131 u132 u133 u134 u135 u136 u137 u138 u139 u140 u141 u142 u143 u144 u145 u146 u147 u148 u149 u150 u151 u152 u153 u154 u155 u156 u157 u158 u159 u160 u161 u162 u163 u164 u165 u166 u167 u168 u169 u170 u171 u172 u173 u174 u175 u176 u177 u178 u179 u180 u181 u182 u183 u184 u185 u186 u187 u188 u189 sl tn nm vl q l0 j Av nv cv hj z1 z0 hlt x left0 ST hzt SN hzn SV hzv SX hz1 SL hz2 HS HST HC HCL HD CBx HLQ K1 K2 K3 HT HI Q9 a1 a2 a3
  by_cases hB : blkB x = true
  case pos =>
    have hne := blk_not hB
    have b47 : ((x : Int) == 47) = false := by rw [beq_eq_false_iff_ne]; omega
    have b62 : ((x : Int) == 62) = false := by rw [beq_eq_false_iff_ne]; omega
    have b61 : ((x : Int) == 61) = false := by rw [beq_eq_false_iff_ne]; omega
    have b34 : ((x : Int) == 34) = false := by rw [beq_eq_false_iff_ne]; omega
    have b39 : ((x : Int) == 39) = false := by rw [beq_eq_false_iff_ne]; omega
    have hCB : ∀ W, Calls Tryz.prog 26 #[.int .u8 (x : Int)] W fun e w' => e = .returned (.bool true) ∧ w' = W := fun W => by have := CBx.out W; rw [hB] at this; exact this
    have hstep : refStep ⟨0, sl, tn, nm, vl, q, l0⟩ x = (⟨1, false, tn, nm, vl, q, l0⟩, false) := by simp [refStep, hB, hne]
    have hTn : refGo N kind ⟨1, false, tn, nm, vl, q, l0⟩ (xs.drop (j + 1)) = T := by rw [← HT.out, ref_on hstep]
    have HTn := Lib.hid hTn
    clear hstep hTn hne hB
    have hq3 := HC.out.cell 3
    have hq2 := HC.out.cell 2
    have hf3 := HC.out.froz 3
    have hf2 := HC.out.froz 2
    simp [tagCs] at hq3 hq2
    have hrel6 : ∀ w6, RInv N kind xs T w ⟨0, sl, tn, nm, vl, q, l0⟩ j (.slice Av nv cv) w6 → RInv N kind xs T w ⟨1, false, tn, nm, vl, q, l0⟩ (j + 1) (.slice Av nv cv) w6 := fun w6 h6 => by
      refine ⟨by simp, by omega, h6.hc, h6.ho, ?_, ?_, ?_, ?_, HLQ.out, HTn.out, h6.hb, h6.hx⟩
      · have h : l0.length ≤ j := h6.l1
        show l0.length ≤ j + 1
        omega
      · have h : nm.length ≤ j := h6.l2
        simp
        try omega
      · have h : vl.length ≤ j := h6.l3
        simp
        try omega
      · have h : tn.length ≤ j := h6.l4
        show tn.length ≤ j + 1
        omega
    have HR := Lib.hid hrel6
    clear hrel6
    go_wp2_with (first | (go_at_call 26; refine (hCB _).mono ?_; rintro r w1 ⟨rfl, e37⟩; obtain rfl := e37.symm; clear e37) | fail)
    go_roundw
    case rel => exact ⟨_, j + 1, _, rfl, rfl, by rw [← HS.out.1], by rw [← HS.out.2.1], rfl, rfl, HR.out _ HI.out⟩
    case measure => simp [RowKit.intOf]; omega
  by_cases h47 : x = 47
  case pos =>
    subst h47
    have hbx : blkB 47 = false := rfl
    have hCB : ∀ W, Calls Tryz.prog 26 #[.int .u8 47] W fun e w' => e = .returned (.bool false) ∧ w' = W := fun W => CBx.out W
    have hstep : refStep ⟨0, sl, tn, nm, vl, q, l0⟩ 47 = (⟨1, true, tn, nm, vl, q, l0⟩, false) := by simp [refStep, blkB]
    have hTn : refGo N kind ⟨1, true, tn, nm, vl, q, l0⟩ (xs.drop (j + 1)) = T := by rw [← HT.out, ref_on hstep]
    have HTn := Lib.hid hTn
    clear hstep hTn hbx
    have hq3 := HC.out.cell 3
    have hq2 := HC.out.cell 2
    have hf3 := HC.out.froz 3
    have hf2 := HC.out.froz 2
    simp [tagCs] at hq3 hq2
    have hrel6 : ∀ w6, RInv N kind xs T w ⟨0, sl, tn, nm, vl, q, l0⟩ j (.slice Av nv cv) w6 → RInv N kind xs T w ⟨1, true, tn, nm, vl, q, l0⟩ (j + 1) (.slice Av nv cv) w6 := fun w6 h6 => by
      refine ⟨by simp, by omega, h6.hc, h6.ho, ?_, ?_, ?_, ?_, HLQ.out, HTn.out, h6.hb, h6.hx⟩
      · have h : l0.length ≤ j := h6.l1
        show l0.length ≤ j + 1
        omega
      · have h : nm.length ≤ j := h6.l2
        simp
        try omega
      · have h : vl.length ≤ j := h6.l3
        simp
        try omega
      · have h : tn.length ≤ j := h6.l4
        show tn.length ≤ j + 1
        omega
    have HR := Lib.hid hrel6
    clear hrel6
    go_wp2_with (first | (go_at_call 26; refine (hCB _).mono ?_; rintro r w1 ⟨rfl, e37⟩; obtain rfl := e37.symm; clear e37) | fail)
    go_roundw
    case rel => exact ⟨_, j + 1, _, rfl, rfl, by rw [← HS.out.1], by rw [← HS.out.2.1], rfl, rfl, HR.out _ HI.out⟩
    case measure => simp [RowKit.intOf]; omega
  by_cases h62 : x = 62
  case pos =>
    subst h62
    have hbx : blkB 62 = false := rfl
    have hCB : ∀ W, Calls Tryz.prog 26 #[.int .u8 62] W fun e w' => e = .returned (.bool false) ∧ w' = W := fun W => CBx.out W
    have hstep : refStep ⟨0, sl, tn, nm, vl, q, l0⟩ 62 = (⟨1, false, tn, nm, vl, q, l0⟩, true) := by simp [refStep, blkB]
    have hTT : (⟨kind, j + 1, tn, l0, false, true⟩ : TG) = T := by rw [← HT.out, ref_end hstep, HD.out.1]
    have HTT := Lib.hid hTT
    clear hstep hTT hbx
    have hq3 := HC.out.cell 3
    have hq2 := HC.out.cell 2
    have hf3 := HC.out.froz 3
    have hf2 := HC.out.froz 2
    simp [tagCs] at hq3 hq2
    have hI := HI.out
    have q0 := (HC.out).cell 0
    have fr0 := (HC.out).froz 0
    have s0 := (hI.hx).cell 0
    have t0 := (hI.hx).froz 0
    have q1 := (HC.out).cell 1
    have fr1 := (HC.out).froz 1
    have s1 := (hI.hx).cell 1
    have t1 := (hI.hx).froz 1
    have q2 := (HC.out).cell 2
    have fr2 := (HC.out).froz 2
    have s2 := (hI.hx).cell 2
    have t2 := (hI.hx).froz 2
    have q3 := (HC.out).cell 3
    have fr3 := (HC.out).froz 3
    have s3 := (hI.hx).cell 3
    have t3 := (hI.hx).froz 3
    have q4 := (HC.out).cell 4
    have fr4 := (HC.out).froz 4
    have s4 := (hI.hx).cell 4
    have t4 := (hI.hx).froz 4
    have q5 := (HC.out).cell 5
    have fr5 := (HC.out).froz 5
    have s5 := (hI.hx).cell 5
    have t5 := (hI.hx).froz 5
    simp [tagCs] at q0 q1 q2 q3 q4 q5 s0 s1 s2 s3 s4 s5
    have hoR : OwnR wr (w.heap.size + 1 + 1) l0 (.slice Av nv cv) := hI.ho
    have HF := Lib.hid (And.intro hoR hI.hb)
    clear hoR hI hq3 hq2 hf3 hf2
    go_wp2_with (first | (go_at_call 26; refine (hCB _).mono ?_; rintro r w1 ⟨rfl, e37⟩; obtain rfl := e37.symm; clear e37) | fail)
    refine bodyPost_ret (v := .agg #[.int .i64 (kind : Int), .int .i64 ((j : Int) + 1), .string ST, .slice Av nv cv, .bool false, .bool true]) ?_ rfl ?_
    · simp [results, Tryz.results39, go_sem, s0, s1, s2, s3, s4, s5]
    · have h := HH.out.2.2.2.1 _ (.slice Av nv cv) _ HTT.out (((((((((HF.out.1.set (j := w.heap.size + 1) (by omega) 1 (.int .i64 ((j : Int) + 1))).set (j := w.heap.size + 1) (by omega) 5 (.bool true)).set (j := w.heap.size + 1) (by omega) 4 (.bool false)).set (j := w.heap.size) (by omega) 0 (.int .i64 (kind : Int))).set (j := w.heap.size) (by omega) 1 (.int .i64 ((j : Int) + 1))).set (j := w.heap.size) (by omega) 2 (.string ST)).set (j := w.heap.size) (by omega) 3 (.slice Av nv cv)).set (j := w.heap.size) (by omega) 4 (.bool false)).set (j := w.heap.size) (by omega) 5 (.bool true)) (((((((((HF.out.2.setc (j := w.heap.size + 1) (by omega) 1 (.int .i64 ((j : Int) + 1))).setc (j := w.heap.size + 1) (by omega) 5 (.bool true)).setc (j := w.heap.size + 1) (by omega) 4 (.bool false)).setc (j := w.heap.size) (by omega) 0 (.int .i64 (kind : Int))).setc (j := w.heap.size) (by omega) 1 (.int .i64 ((j : Int) + 1))).setc (j := w.heap.size) (by omega) 2 (.string ST)).setc (j := w.heap.size) (by omega) 3 (.slice Av nv cv)).setc (j := w.heap.size) (by omega) 4 (.bool false)).setc (j := w.heap.size) (by omega) 5 (.bool true))
      unfold tagV strV at h
      dsimp only at h
      rw [HST.out] at h
      exact h
  have hBf : blkB x = false := by simpa using hB
  have hCB : ∀ W, Calls Tryz.prog 26 #[.int .u8 (x : Int)] W fun e w' => e = .returned (.bool false) ∧ w' = W := fun W => by have := CBx.out W; rw [hBf] at this; exact this
  have b62 : ((x : Int) == 62) = false := by rw [beq_eq_false_iff_ne]; omega
  have n62 : ((x : Int) != 62) = true := by rw [bne_iff_ne]; omega
  have b47 : ((x : Int) == 47) = false := by rw [beq_eq_false_iff_ne]; omega
  have n47 : ((x : Int) != 47) = true := by rw [bne_iff_ne]; omega
  have hstep : refStep ⟨0, sl, tn, nm, vl, q, l0⟩ x = (⟨0, sl, (tn ++ [lowN x]), nm, vl, q, l0⟩, false) := by simp [refStep, hBf, h62, h47]
  have hTn : refGo N kind ⟨0, sl, (tn ++ [lowN x]), nm, vl, q, l0⟩ (xs.drop (j + 1)) = T := by rw [← HT.out, ref_on hstep]
  have HTn := Lib.hid hTn
  clear hstep hTn hBf
  have hq3 := HC.out.cell 3
  have hq2 := HC.out.cell 2
  have hf3 := HC.out.froz 3
  have hf2 := HC.out.froz 2
  simp [tagCs] at hq3 hq2
  go_wp2_with (first | (go_at_call 26; refine (hCB _).mono ?_; rintro r w1 ⟨rfl, e37⟩; obtain rfl := e37.symm; clear e37) | fail)
  go_region_with (first
    | (go_at_call 25; refine (HCL.out _).mono ?_; rintro r w6 ⟨rfl, hb6⟩; have hb6' : Below wr.heap.size wr w6 := (Below.refl _ _).drew.trans hb6; have hI6 := HI.out.on hb6'; have hc6 : Cells w6 (w.heap.size + 1) 56 (tagCs kind ST (.slice Av nv cv)) := HC.out.on hb6'; have hq6 := hc6.cell 2; have hf6 := hc6.froz 2; have hg6 := hc6.lt; simp [tagCs] at hq6; have HI6 := Lib.hid (And.intro hI6 hc6); clear hb6 hb6' hI6 hc6))
  all_goals
    have hrel6 : RInv N kind xs T w ⟨0, sl, (tn ++ [lowN x]), nm, vl, q, l0⟩ (j + 1) (.slice Av nv cv) (w6.setCell ⟨w.heap.size + 1, 2, none⟩ (.string (ST ++ SL))) := by
      refine ⟨by simp, by omega, ?_, HI6.out.1.ho.set (by omega) 2 _, ?_, ?_, ?_, ?_, HLQ.out, HTn.out, HI6.out.1.hb.setc (by omega) 2 _, (Fz.set (X := (· = w.heap.size + 1)) _ _ _ _ rfl).cells (by omega) HI6.out.1.hx⟩
      · have h := HI6.out.2.set 2 (.string (ST ++ SL))
        rw [HS.out.2.2.2.2.2.2] at h ⊢
        exact h
      · have h : l0.length ≤ j := HI6.out.1.l1
        show l0.length ≤ j + 1
        omega
      · have h : nm.length ≤ j := HI6.out.1.l2
        show nm.length ≤ j + 1
        omega
      · have h : vl.length ≤ j := HI6.out.1.l3
        show vl.length ≤ j + 1
        omega
      · have h : tn.length ≤ j := HI6.out.1.l4
        simp
        omega
    have HR := Lib.hid hrel6
    clear hrel6
    go_wp2_with fail
    go_roundw
    case rel => exact ⟨_, j + 1, _, rfl, rfl, by rw [← HS.out.1], by rw [← HS.out.2.1], rfl, rfl, HR.out⟩
    case measure => simp [RowKit.intOf]; omega
set_option maxHeartbeats 40000000 in
set_option maxRecDepth 100000 in
theorem refTag_s1 : refTag_parts.T1 := by
  intro b o cap n kind xs w T Q N hcap hlen hn HH K0 a0 wr u14 u15 u16 u20 u21 u22 u23 u24 u25 u26 u27 u28 u29 u30 u31 u32 u33 u34 u35 u36 u37 u38 u39 u40 u41 u42 u43 u44 u45 u46 u47 u48 u49 u50 u51 u52 u53 u54 u55 u56 u57 u58 u59 u60 u61 u62 u63 u64 u65 u66 u67 u68 u69 u70 u71 u72 u73 u74 u75 u76 u77 u78 u79 u80 u81 u82 u83 u84 u85 u86 u87 u88 u89 u90 u91 u92 u93 u94 u95 u96 u97 u98 u99 u100 u101 u102 u103 u104 u105 u106 u107 u108 u109 u110 u111 u112 u113 u114 u115 u116 u117 u118 u119 u120 u121 u122 u123 u124 u125 u126 u127 u128 u129 u130 u131 u132 u133 u134 u135 u136 u137 u138 u139 u140 u141 u142 u143 u144 u145 u146 u147 u148 u149 u150 u151 u152 u153 u154 u155 u156 u157 u158 u159 u160 u161 u162 u163 u164 u165 u166 u167 u168 u169 u170 u171 u172 u173 u174 u175 u176 u177 u178 u179 u180 u181 u182 u183 u184 u185 u186 u187 u188 u189 sl tn nm vl q l0 j Av nv cv hj z1 z0 hlt x left0 ST hzt SN hzn SV hzv SX hz1 SL hz2 HS HST HC HCL HD CBx HLQ K1 K2 K3 HT HI Q9 a1 a2 a3
  by_cases h62 : x = 62
  case pos =>
    subst h62
    have hbx : blkB 62 = false := rfl
    have hCB : ∀ W, Calls Tryz.prog 26 #[.int .u8 62] W fun e w' => e = .returned (.bool false) ∧ w' = W := fun W => CBx.out W
    have hstep : refStep ⟨1, sl, tn, nm, vl, q, l0⟩ 62 = (⟨1, sl, tn, nm, vl, q, l0⟩, true) := by simp [refStep]
    have hTT : (⟨kind, j + 1, tn, l0, sl, true⟩ : TG) = T := by rw [← HT.out, ref_end hstep, HD.out.1]
    have HTT := Lib.hid hTT
    clear hstep hTT hbx
    have hq3 := HC.out.cell 3
    have hq2 := HC.out.cell 2
    have hf3 := HC.out.froz 3
    have hf2 := HC.out.froz 2
    simp [tagCs] at hq3 hq2
    have hI := HI.out
    have q0 := (HC.out).cell 0
    have fr0 := (HC.out).froz 0
    have s0 := (hI.hx).cell 0
    have t0 := (hI.hx).froz 0
    have q1 := (HC.out).cell 1
    have fr1 := (HC.out).froz 1
    have s1 := (hI.hx).cell 1
    have t1 := (hI.hx).froz 1
    have q2 := (HC.out).cell 2
    have fr2 := (HC.out).froz 2
    have s2 := (hI.hx).cell 2
    have t2 := (hI.hx).froz 2
    have q3 := (HC.out).cell 3
    have fr3 := (HC.out).froz 3
    have s3 := (hI.hx).cell 3
    have t3 := (hI.hx).froz 3
    have q4 := (HC.out).cell 4
    have fr4 := (HC.out).froz 4
    have s4 := (hI.hx).cell 4
    have t4 := (hI.hx).froz 4
    have q5 := (HC.out).cell 5
    have fr5 := (HC.out).froz 5
    have s5 := (hI.hx).cell 5
    have t5 := (hI.hx).froz 5
    simp [tagCs] at q0 q1 q2 q3 q4 q5 s0 s1 s2 s3 s4 s5
    have hoR : OwnR wr (w.heap.size + 1 + 1) l0 (.slice Av nv cv) := hI.ho
    have HF := Lib.hid (And.intro hoR hI.hb)
    clear hoR hI hq3 hq2 hf3 hf2
    go_wp2_with (first | (go_at_call 26; refine (hCB _).mono ?_; rintro r w1 ⟨rfl, e37⟩; obtain rfl := e37.symm; clear e37) | fail)
    refine bodyPost_ret (v := .agg #[.int .i64 (kind : Int), .int .i64 ((j : Int) + 1), .string ST, .slice Av nv cv, .bool sl, .bool true]) ?_ rfl ?_
    · simp [results, Tryz.results39, go_sem, s0, s1, s2, s3, s4, s5]
    · have h := HH.out.2.2.2.1 _ (.slice Av nv cv) _ HTT.out (((((((((HF.out.1.set (j := w.heap.size + 1) (by omega) 1 (.int .i64 ((j : Int) + 1))).set (j := w.heap.size + 1) (by omega) 5 (.bool true)).set (j := w.heap.size + 1) (by omega) 4 (.bool sl)).set (j := w.heap.size) (by omega) 0 (.int .i64 (kind : Int))).set (j := w.heap.size) (by omega) 1 (.int .i64 ((j : Int) + 1))).set (j := w.heap.size) (by omega) 2 (.string ST)).set (j := w.heap.size) (by omega) 3 (.slice Av nv cv)).set (j := w.heap.size) (by omega) 4 (.bool sl)).set (j := w.heap.size) (by omega) 5 (.bool true)) (((((((((HF.out.2.setc (j := w.heap.size + 1) (by omega) 1 (.int .i64 ((j : Int) + 1))).setc (j := w.heap.size + 1) (by omega) 5 (.bool true)).setc (j := w.heap.size + 1) (by omega) 4 (.bool sl)).setc (j := w.heap.size) (by omega) 0 (.int .i64 (kind : Int))).setc (j := w.heap.size) (by omega) 1 (.int .i64 ((j : Int) + 1))).setc (j := w.heap.size) (by omega) 2 (.string ST)).setc (j := w.heap.size) (by omega) 3 (.slice Av nv cv)).setc (j := w.heap.size) (by omega) 4 (.bool sl)).setc (j := w.heap.size) (by omega) 5 (.bool true))
      unfold tagV strV at h
      dsimp only at h
      rw [HST.out] at h
      exact h
  by_cases hB : blkB x = true
  case pos =>
    have hne := blk_not hB
    have b47 : ((x : Int) == 47) = false := by rw [beq_eq_false_iff_ne]; omega
    have b62 : ((x : Int) == 62) = false := by rw [beq_eq_false_iff_ne]; omega
    have b61 : ((x : Int) == 61) = false := by rw [beq_eq_false_iff_ne]; omega
    have b34 : ((x : Int) == 34) = false := by rw [beq_eq_false_iff_ne]; omega
    have b39 : ((x : Int) == 39) = false := by rw [beq_eq_false_iff_ne]; omega
    have hCB : ∀ W, Calls Tryz.prog 26 #[.int .u8 (x : Int)] W fun e w' => e = .returned (.bool true) ∧ w' = W := fun W => by have := CBx.out W; rw [hB] at this; exact this
    have hstep : refStep ⟨1, sl, tn, nm, vl, q, l0⟩ x = (⟨1, false, tn, nm, vl, q, l0⟩, false) := by simp [refStep, hB, hne]
    have hTn : refGo N kind ⟨1, false, tn, nm, vl, q, l0⟩ (xs.drop (j + 1)) = T := by rw [← HT.out, ref_on hstep]
    have HTn := Lib.hid hTn
    clear hstep hTn hne hB
    have hq3 := HC.out.cell 3
    have hq2 := HC.out.cell 2
    have hf3 := HC.out.froz 3
    have hf2 := HC.out.froz 2
    simp [tagCs] at hq3 hq2
    have hrel6 : ∀ w6, RInv N kind xs T w ⟨1, sl, tn, nm, vl, q, l0⟩ j (.slice Av nv cv) w6 → RInv N kind xs T w ⟨1, false, tn, nm, vl, q, l0⟩ (j + 1) (.slice Av nv cv) w6 := fun w6 h6 => by
      refine ⟨by simp, by omega, h6.hc, h6.ho, ?_, ?_, ?_, ?_, HLQ.out, HTn.out, h6.hb, h6.hx⟩
      · have h : l0.length ≤ j := h6.l1
        show l0.length ≤ j + 1
        omega
      · have h : nm.length ≤ j := h6.l2
        simp
        try omega
      · have h : vl.length ≤ j := h6.l3
        simp
        try omega
      · have h : tn.length ≤ j := h6.l4
        show tn.length ≤ j + 1
        omega
    have HR := Lib.hid hrel6
    clear hrel6
    go_wp2_with (first | (go_at_call 26; refine (hCB _).mono ?_; rintro r w1 ⟨rfl, e37⟩; obtain rfl := e37.symm; clear e37) | fail)
    go_roundw
    case rel => exact ⟨_, j + 1, _, rfl, rfl, by rw [← HS.out.1], by rw [← HS.out.2.1], rfl, rfl, HR.out _ HI.out⟩
    case measure => simp [RowKit.intOf]; omega
  by_cases h47 : x = 47
  case pos =>
    subst h47
    have hbx : blkB 47 = false := rfl
    have hCB : ∀ W, Calls Tryz.prog 26 #[.int .u8 47] W fun e w' => e = .returned (.bool false) ∧ w' = W := fun W => CBx.out W
    have hstep : refStep ⟨1, sl, tn, nm, vl, q, l0⟩ 47 = (⟨1, true, tn, nm, vl, q, l0⟩, false) := by simp [refStep, blkB]
    have hTn : refGo N kind ⟨1, true, tn, nm, vl, q, l0⟩ (xs.drop (j + 1)) = T := by rw [← HT.out, ref_on hstep]
    have HTn := Lib.hid hTn
    clear hstep hTn hbx
    have hq3 := HC.out.cell 3
    have hq2 := HC.out.cell 2
    have hf3 := HC.out.froz 3
    have hf2 := HC.out.froz 2
    simp [tagCs] at hq3 hq2
    have hrel6 : ∀ w6, RInv N kind xs T w ⟨1, sl, tn, nm, vl, q, l0⟩ j (.slice Av nv cv) w6 → RInv N kind xs T w ⟨1, true, tn, nm, vl, q, l0⟩ (j + 1) (.slice Av nv cv) w6 := fun w6 h6 => by
      refine ⟨by simp, by omega, h6.hc, h6.ho, ?_, ?_, ?_, ?_, HLQ.out, HTn.out, h6.hb, h6.hx⟩
      · have h : l0.length ≤ j := h6.l1
        show l0.length ≤ j + 1
        omega
      · have h : nm.length ≤ j := h6.l2
        simp
        try omega
      · have h : vl.length ≤ j := h6.l3
        simp
        try omega
      · have h : tn.length ≤ j := h6.l4
        show tn.length ≤ j + 1
        omega
    have HR := Lib.hid hrel6
    clear hrel6
    go_wp2_with (first | (go_at_call 26; refine (hCB _).mono ?_; rintro r w1 ⟨rfl, e37⟩; obtain rfl := e37.symm; clear e37) | fail)
    go_roundw
    case rel => exact ⟨_, j + 1, _, rfl, rfl, by rw [← HS.out.1], by rw [← HS.out.2.1], rfl, rfl, HR.out _ HI.out⟩
    case measure => simp [RowKit.intOf]; omega
  have hBf : blkB x = false := by simpa using hB
  have hCB : ∀ W, Calls Tryz.prog 26 #[.int .u8 (x : Int)] W fun e w' => e = .returned (.bool false) ∧ w' = W := fun W => by have := CBx.out W; rw [hBf] at this; exact this
  have b62 : ((x : Int) == 62) = false := by rw [beq_eq_false_iff_ne]; omega
  have n62 : ((x : Int) != 62) = true := by rw [bne_iff_ne]; omega
  have b47 : ((x : Int) == 47) = false := by rw [beq_eq_false_iff_ne]; omega
  have n47 : ((x : Int) != 47) = true := by rw [bne_iff_ne]; omega
  have hstep : refStep ⟨1, sl, tn, nm, vl, q, l0⟩ x = (⟨2, sl, tn, [lowN x], [], q, l0⟩, false) := by simp [refStep, hBf, h62, h47]
  have hTn : refGo N kind ⟨2, sl, tn, [lowN x], [], q, l0⟩ (xs.drop (j + 1)) = T := by rw [← HT.out, ref_on hstep]
  have HTn := Lib.hid hTn
  clear hstep hTn hBf
  have hq3 := HC.out.cell 3
  have hq2 := HC.out.cell 2
  have hf3 := HC.out.froz 3
  have hf2 := HC.out.froz 2
  simp [tagCs] at hq3 hq2
  have hrel6 : ∀ w6, RInv N kind xs T w ⟨1, sl, tn, nm, vl, q, l0⟩ j (.slice Av nv cv) w6 → RInv N kind xs T w ⟨2, sl, tn, [lowN x], [], q, l0⟩ (j + 1) (.slice Av nv cv) w6 := fun w6 h6 => by
    refine ⟨by simp, by omega, h6.hc, h6.ho, ?_, ?_, ?_, ?_, HLQ.out, HTn.out, h6.hb, h6.hx⟩
    · have h : l0.length ≤ j := h6.l1
      show l0.length ≤ j + 1
      omega
    · have h : nm.length ≤ j := h6.l2
      simp
      try omega
    · have h : vl.length ≤ j := h6.l3
      simp
      try omega
    · have h : tn.length ≤ j := h6.l4
      show tn.length ≤ j + 1
      omega
  have HR := Lib.hid hrel6
  clear hrel6
  go_wp2_with (first | (go_at_call 26; refine (hCB _).mono ?_; rintro r w1 ⟨rfl, e37⟩; obtain rfl := e37.symm; clear e37) | (go_at_call 25; refine (HCL.out _).mono ?_; rintro r w6 ⟨rfl, hb6⟩) | fail)
  have HM := Lib.hid (HI.out.on hb6)
  clear hb6
  go_wp2_with fail
  go_roundw
  case rel => exact ⟨_, j + 1, _, rfl, rfl, by rw [← HS.out.2.2.2.1], by rfl, rfl, rfl, HR.out _ HM.out⟩
  case measure => simp [RowKit.intOf]; omega
set_option maxHeartbeats 40000000 in
set_option maxRecDepth 100000 in
theorem refTag_s2 : refTag_parts.T2 := by
  intro b o cap n kind xs w T Q N hcap hlen hn HH K0 a0 wr u14 u15 u16 u20 u21 u22 u23 u24 u25 u26 u27 u28 u29 u30 u31 u32 u33 u34 u35 u36 u37 u38 u39 u40 u41 u42 u43 u44 u45 u46 u47 u48 u49 u50 u51 u52 u53 u54 u55 u56 u57 u58 u59 u60 u61 u62 u63 u64 u65 u66 u67 u68 u69 u70 u71 u72 u73 u74 u75 u76 u77 u78 u79 u80 u81 u82 u83 u84 u85 u86 u87 u88 u89 u90 u91 u92 u93 u94 u95 u96 u97 u98 u99 u100 u101 u102 u103 u104 u105 u106 u107 u108 u109 u110 u111 u112 u113 u114 u115 u116 u117 u118 u119 u120 u121 u122 u123 u124 u125 u126 u127 u128 u129 u130 u131 u132 u133 u134 u135 u136 u137 u138 u139 u140 u141 u142 u143 u144 u145 u146 u147 u148 u149 u150 u151 u152 u153 u154 u155 u156 u157 u158 u159 u160 u161 u162 u163 u164 u165 u166 u167 u168 u169 u170 u171 u172 u173 u174 u175 u176 u177 u178 u179 u180 u181 u182 u183 u184 u185 u186 u187 u188 u189 sl tn nm vl q l0 j Av nv cv hj z1 z0 hlt x left0 ST hzt SN hzn SV hzv SX hz1 SL hz2 HS HST HC HCL HD CBx HLQ K1 K2 K3 HT HI Q9 a1 a2 a3
  by_cases h61 : x = 61
  case pos =>
    subst h61
    have hbx : blkB 61 = false := rfl
    have hCB : ∀ W, Calls Tryz.prog 26 #[.int .u8 61] W fun e w' => e = .returned (.bool false) ∧ w' = W := fun W => CBx.out W
    have hstep : refStep ⟨2, sl, tn, nm, vl, q, l0⟩ 61 = (⟨4, sl, tn, nm, vl, q, l0⟩, false) := by simp [refStep]
    have hTn : refGo N kind ⟨4, sl, tn, nm, vl, q, l0⟩ (xs.drop (j + 1)) = T := by rw [← HT.out, ref_on hstep]
    have HTn := Lib.hid hTn
    clear hstep hTn hbx
    have hq3 := HC.out.cell 3
    have hq2 := HC.out.cell 2
    have hf3 := HC.out.froz 3
    have hf2 := HC.out.froz 2
    simp [tagCs] at hq3 hq2
    have hrel6 : ∀ w6, RInv N kind xs T w ⟨2, sl, tn, nm, vl, q, l0⟩ j (.slice Av nv cv) w6 → RInv N kind xs T w ⟨4, sl, tn, nm, vl, q, l0⟩ (j + 1) (.slice Av nv cv) w6 := fun w6 h6 => by
      refine ⟨by simp, by omega, h6.hc, h6.ho, ?_, ?_, ?_, ?_, HLQ.out, HTn.out, h6.hb, h6.hx⟩
      · have h : l0.length ≤ j := h6.l1
        show l0.length ≤ j + 1
        omega
      · have h : nm.length ≤ j := h6.l2
        simp
        try omega
      · have h : vl.length ≤ j := h6.l3
        simp
        try omega
      · have h : tn.length ≤ j := h6.l4
        show tn.length ≤ j + 1
        omega
    have HR := Lib.hid hrel6
    clear hrel6
    go_wp2_with (first | (go_at_call 26; refine (hCB _).mono ?_; rintro r w1 ⟨rfl, e37⟩; obtain rfl := e37.symm; clear e37) | fail)
    go_roundw
    case rel => exact ⟨_, j + 1, _, rfl, rfl, by rw [← HS.out.1], by rw [← HS.out.2.1], rfl, rfl, HR.out _ HI.out⟩
    case measure => simp [RowKit.intOf]; omega
  by_cases hB : blkB x = true
  case pos =>
    have hne := blk_not hB
    have b47 : ((x : Int) == 47) = false := by rw [beq_eq_false_iff_ne]; omega
    have b62 : ((x : Int) == 62) = false := by rw [beq_eq_false_iff_ne]; omega
    have b61 : ((x : Int) == 61) = false := by rw [beq_eq_false_iff_ne]; omega
    have b34 : ((x : Int) == 34) = false := by rw [beq_eq_false_iff_ne]; omega
    have b39 : ((x : Int) == 39) = false := by rw [beq_eq_false_iff_ne]; omega
    have hCB : ∀ W, Calls Tryz.prog 26 #[.int .u8 (x : Int)] W fun e w' => e = .returned (.bool true) ∧ w' = W := fun W => by have := CBx.out W; rw [hB] at this; exact this
    have hstep : refStep ⟨2, sl, tn, nm, vl, q, l0⟩ x = (⟨3, sl, tn, nm, vl, q, l0⟩, false) := by simp [refStep, hB, hne]
    have hTn : refGo N kind ⟨3, sl, tn, nm, vl, q, l0⟩ (xs.drop (j + 1)) = T := by rw [← HT.out, ref_on hstep]
    have HTn := Lib.hid hTn
    clear hstep hTn hne hB
    have hq3 := HC.out.cell 3
    have hq2 := HC.out.cell 2
    have hf3 := HC.out.froz 3
    have hf2 := HC.out.froz 2
    simp [tagCs] at hq3 hq2
    have hrel6 : ∀ w6, RInv N kind xs T w ⟨2, sl, tn, nm, vl, q, l0⟩ j (.slice Av nv cv) w6 → RInv N kind xs T w ⟨3, sl, tn, nm, vl, q, l0⟩ (j + 1) (.slice Av nv cv) w6 := fun w6 h6 => by
      refine ⟨by simp, by omega, h6.hc, h6.ho, ?_, ?_, ?_, ?_, HLQ.out, HTn.out, h6.hb, h6.hx⟩
      · have h : l0.length ≤ j := h6.l1
        show l0.length ≤ j + 1
        omega
      · have h : nm.length ≤ j := h6.l2
        simp
        try omega
      · have h : vl.length ≤ j := h6.l3
        simp
        try omega
      · have h : tn.length ≤ j := h6.l4
        show tn.length ≤ j + 1
        omega
    have HR := Lib.hid hrel6
    clear hrel6
    go_wp2_with (first | (go_at_call 26; refine (hCB _).mono ?_; rintro r w1 ⟨rfl, e37⟩; obtain rfl := e37.symm; clear e37) | fail)
    go_roundw
    case rel => exact ⟨_, j + 1, _, rfl, rfl, by rw [← HS.out.1], by rw [← HS.out.2.1], rfl, rfl, HR.out _ HI.out⟩
    case measure => simp [RowKit.intOf]; omega
  by_cases h47 : x = 47
  case pos =>
    subst h47
    have hbx : blkB 47 = false := rfl
    have hCB : ∀ W, Calls Tryz.prog 26 #[.int .u8 47] W fun e w' => e = .returned (.bool false) ∧ w' = W := fun W => CBx.out W
    have hstep : refStep ⟨2, sl, tn, nm, vl, q, l0⟩ 47 = (⟨1, true, tn, nm, vl, q, (l0 ++ [(nm, [])])⟩, false) := by simp [refStep, blkB]
    have hTn : refGo N kind ⟨1, true, tn, nm, vl, q, (l0 ++ [(nm, [])])⟩ (xs.drop (j + 1)) = T := by rw [← HT.out, ref_on hstep]
    have HTn := Lib.hid hTn
    clear hstep hTn hbx
    have hq3 := HC.out.cell 3
    have hq2 := HC.out.cell 2
    have hf3 := HC.out.froz 3
    have hf2 := HC.out.froz 2
    simp [tagCs] at hq3 hq2
    have hI := HI.out
    have hoR : OwnR wr (w.heap.size + 1 + 1) l0 (.slice Av nv cv) := hI.ho
    have hll : l0.length ≤ 1000000 := by have h1 : l0.length ≤ j := hI.l1; have h2 := HH.out.2.2.2.2.2.2; omega
    have hw0 : wr.alloc (.cells #[strV ((nm, []) : AT).1, strV ((nm, []) : AT).2] 96) = wr.alloc (.cells #[.string SN, .string ⟨#[]⟩] 96) := by
      unfold strV
      dsimp only
      rw [HS.out.1]
      rfl
    have HA := Lib.hid (And.intro hoR (And.intro hll (And.intro hI hw0)))
    clear hoR hll hI hw0
    go_wp2_with (first
      | (at_builtin; refine wpList_appR rfl (.tmp 92) (.tmp 95) rfl (w.heap.size + 1 + 1) _ l0 ((nm, []) : AT) rfl wr HA.out.1 HA.out.2.2.2 rfl HA.out.2.1 (by omega) ?_)
      | (go_at_call 26; refine (hCB _).mono ?_; rintro r w1 ⟨rfl, e37⟩; obtain rfl := e37.symm; clear e37)
      | fail)
    intro g5 cp5 w5 ho5 hb5
    have hw5 : Below w.heap.size w w5 := HA.out.2.2.1.hb.trans ⟨hb5.os, hb5.tape, hb5.output, hb5.size, fun k hk => hb5.block k (by omega)⟩
    have hc5 : Cells w5 (w.heap.size + 1) 56 (tagCs kind ST (.slice Av nv cv)) := (hb5.block _ (by omega)).trans (show wr.heap[w.heap.size + 1]? = _ from HC.out)
    have hx5 : Cells w5 w.heap.size 56 #[.int .i64 0, .int .i64 0, .string ⟨#[]⟩, .slice none 0 0, .bool false, .bool false] := (hb5.block _ (by omega)).trans (show wr.heap[w.heap.size]? = _ from HA.out.2.2.1.hx)
    clear hb5 hq3 hq2 hf3 hf2
    have hq3 := hc5.cell 3
    have hf3 := hc5.froz 3
    have hg5 := hc5.lt
    simp [tagCs] at hq3
    have hrel5 : RInv N kind xs T w ⟨1, true, tn, nm, vl, q, (l0 ++ [(nm, [])])⟩ (j + 1) (.slice (some ⟨g5, 0, none⟩) (l0.length + 1) cp5) (w5.setCell ⟨w.heap.size + 1, 3, none⟩ (.slice (some ⟨g5, 0, none⟩) (l0.length + 1) cp5)) := by
      refine ⟨by simp, by omega, ?_, ho5.set (by omega) 3 _, ?_, ?_, ?_, ?_, HLQ.out, HTn.out, hw5.setc (by omega) 3 _, (Fz.set (X := (· = w.heap.size + 1)) _ _ _ _ rfl).cells (by omega) hx5⟩
      · have h := hc5.set 3 (.slice (some ⟨g5, 0, none⟩) (l0.length + 1) cp5)
        rw [← HST.out] at h
        exact h
      · have h : l0.length ≤ j := HA.out.2.2.1.l1
        simp
        omega
      · have h : nm.length ≤ j := HA.out.2.2.1.l2
        simp
        try omega
      · have h : vl.length ≤ j := HA.out.2.2.1.l3
        simp
        try omega
      · have h : tn.length ≤ j := HA.out.2.2.1.l4
        show tn.length ≤ j + 1
        omega
    have HR := Lib.hid hrel5
    clear hrel5 ho5 hw5 hc5 hx5
    go_wp2_with fail
    go_roundw
    case rel => exact ⟨_, j + 1, _, rfl, rfl, by rw [← HS.out.1], by rw [← HS.out.2.1], rfl, rfl, HR.out⟩
    case measure => simp [RowKit.intOf]; omega
  by_cases h62 : x = 62
  case pos =>
    subst h62
    have hbx : blkB 62 = false := rfl
    have hCB : ∀ W, Calls Tryz.prog 26 #[.int .u8 62] W fun e w' => e = .returned (.bool false) ∧ w' = W := fun W => CBx.out W
    have hstep : refStep ⟨2, sl, tn, nm, vl, q, l0⟩ 62 = (⟨1, false, tn, nm, vl, q, (l0 ++ [(nm, [])])⟩, true) := by simp [refStep, blkB]
    have hTT : (⟨kind, j + 1, tn, l0 ++ [(nm, [])], false, true⟩ : TG) = T := by rw [← HT.out, ref_end hstep, HD.out.1]
    have HTT := Lib.hid hTT
    clear hstep hTT hbx
    have hq3 := HC.out.cell 3
    have hq2 := HC.out.cell 2
    have hf3 := HC.out.froz 3
    have hf2 := HC.out.froz 2
    simp [tagCs] at hq3 hq2
    have hI := HI.out
    have hoR : OwnR wr (w.heap.size + 1 + 1) l0 (.slice Av nv cv) := hI.ho
    have hll : l0.length ≤ 1000000 := by have h1 : l0.length ≤ j := hI.l1; have h2 := HH.out.2.2.2.2.2.2; omega
    have hw0 : wr.alloc (.cells #[strV ((nm, []) : AT).1, strV ((nm, []) : AT).2] 96) = wr.alloc (.cells #[.string SN, .string ⟨#[]⟩] 96) := by
      unfold strV
      dsimp only
      rw [HS.out.1]
      rfl
    have HA := Lib.hid (And.intro hoR (And.intro hll (And.intro hI hw0)))
    clear hoR hll hI hw0
    go_wp2_with (first
      | (at_builtin; refine wpList_appR rfl (.tmp 92) (.tmp 95) rfl (w.heap.size + 1 + 1) _ l0 ((nm, []) : AT) rfl wr HA.out.1 HA.out.2.2.2 rfl HA.out.2.1 (by omega) ?_)
      | (go_at_call 26; refine (hCB _).mono ?_; rintro r w1 ⟨rfl, e37⟩; obtain rfl := e37.symm; clear e37)
      | fail)
    intro g5 cp5 w5 ho5 hb5
    have hw5 : Below w.heap.size w w5 := HA.out.2.2.1.hb.trans ⟨hb5.os, hb5.tape, hb5.output, hb5.size, fun k hk => hb5.block k (by omega)⟩
    have hc5 : Cells w5 (w.heap.size + 1) 56 (tagCs kind ST (.slice Av nv cv)) := (hb5.block _ (by omega)).trans (show wr.heap[w.heap.size + 1]? = _ from HC.out)
    have hx5 : Cells w5 w.heap.size 56 #[.int .i64 0, .int .i64 0, .string ⟨#[]⟩, .slice none 0 0, .bool false, .bool false] := (hb5.block _ (by omega)).trans (show wr.heap[w.heap.size]? = _ from HA.out.2.2.1.hx)
    clear hb5 hq3 hq2 hf3 hf2
    have q0 := (hc5).cell 0
    have fr0 := (hc5).froz 0
    have s0 := (hx5).cell 0
    have t0 := (hx5).froz 0
    have q1 := (hc5).cell 1
    have fr1 := (hc5).froz 1
    have s1 := (hx5).cell 1
    have t1 := (hx5).froz 1
    have q2 := (hc5).cell 2
    have fr2 := (hc5).froz 2
    have s2 := (hx5).cell 2
    have t2 := (hx5).froz 2
    have q3 := (hc5).cell 3
    have fr3 := (hc5).froz 3
    have s3 := (hx5).cell 3
    have t3 := (hx5).froz 3
    have q4 := (hc5).cell 4
    have fr4 := (hc5).froz 4
    have s4 := (hx5).cell 4
    have t4 := (hx5).froz 4
    have q5 := (hc5).cell 5
    have fr5 := (hc5).froz 5
    have s5 := (hx5).cell 5
    have t5 := (hx5).froz 5
    simp [tagCs] at q0 q1 q2 q3 q4 q5 s0 s1 s2 s3 s4 s5
    have ho6 := ho5.set (j := w.heap.size + 1) (by omega) 3 (.slice (some ⟨g5, 0, none⟩) (l0.length + 1) cp5)
    have hb6 := hw5.setc (j := w.heap.size + 1) (by omega) 3 (.slice (some ⟨g5, 0, none⟩) (l0.length + 1) cp5)
    have HF := Lib.hid (And.intro ho6 hb6)
    clear ho5 hw5 hc5 hx5 ho6 hb6
    go_wp2_with fail
    refine bodyPost_ret (v := .agg #[.int .i64 (kind : Int), .int .i64 ((j : Int) + 1), .string ST, .slice (some ⟨g5, 0, none⟩) (l0.length + 1) cp5, .bool false, .bool true]) ?_ rfl ?_
    · simp [results, Tryz.results39, go_sem, s0, s1, s2, s3, s4, s5]
    · have h := HH.out.2.2.2.1 _ (.slice (some ⟨g5, 0, none⟩) (l0.length + 1) cp5) _ HTT.out (((((((((HF.out.1.set (j := w.heap.size + 1) (by omega) 1 (.int .i64 ((j : Int) + 1))).set (j := w.heap.size + 1) (by omega) 5 (.bool true)).set (j := w.heap.size + 1) (by omega) 4 (.bool false)).set (j := w.heap.size) (by omega) 0 (.int .i64 (kind : Int))).set (j := w.heap.size) (by omega) 1 (.int .i64 ((j : Int) + 1))).set (j := w.heap.size) (by omega) 2 (.string ST)).set (j := w.heap.size) (by omega) 3 (.slice (some ⟨g5, 0, none⟩) (l0.length + 1) cp5)).set (j := w.heap.size) (by omega) 4 (.bool false)).set (j := w.heap.size) (by omega) 5 (.bool true)) (((((((((HF.out.2.setc (j := w.heap.size + 1) (by omega) 1 (.int .i64 ((j : Int) + 1))).setc (j := w.heap.size + 1) (by omega) 5 (.bool true)).setc (j := w.heap.size + 1) (by omega) 4 (.bool false)).setc (j := w.heap.size) (by omega) 0 (.int .i64 (kind : Int))).setc (j := w.heap.size) (by omega) 1 (.int .i64 ((j : Int) + 1))).setc (j := w.heap.size) (by omega) 2 (.string ST)).setc (j := w.heap.size) (by omega) 3 (.slice (some ⟨g5, 0, none⟩) (l0.length + 1) cp5)).setc (j := w.heap.size) (by omega) 4 (.bool false)).setc (j := w.heap.size) (by omega) 5 (.bool true))
      unfold tagV strV at h
      dsimp only at h
      rw [HST.out] at h
      exact h
  have hBf : blkB x = false := by simpa using hB
  have hCB : ∀ W, Calls Tryz.prog 26 #[.int .u8 (x : Int)] W fun e w' => e = .returned (.bool false) ∧ w' = W := fun W => by have := CBx.out W; rw [hBf] at this; exact this
  have b62 : ((x : Int) == 62) = false := by rw [beq_eq_false_iff_ne]; omega
  have n62 : ((x : Int) != 62) = true := by rw [bne_iff_ne]; omega
  have b47 : ((x : Int) == 47) = false := by rw [beq_eq_false_iff_ne]; omega
  have n47 : ((x : Int) != 47) = true := by rw [bne_iff_ne]; omega
  have b61 : ((x : Int) == 61) = false := by rw [beq_eq_false_iff_ne]; omega
  have hstep : refStep ⟨2, sl, tn, nm, vl, q, l0⟩ x = (⟨2, sl, tn, (nm ++ [lowN x]), vl, q, l0⟩, false) := by simp [refStep, hBf, h62, h47, h61]
  have hTn : refGo N kind ⟨2, sl, tn, (nm ++ [lowN x]), vl, q, l0⟩ (xs.drop (j + 1)) = T := by rw [← HT.out, ref_on hstep]
  have HTn := Lib.hid hTn
  clear hstep hTn hBf
  have hq3 := HC.out.cell 3
  have hq2 := HC.out.cell 2
  have hf3 := HC.out.froz 3
  have hf2 := HC.out.froz 2
  simp [tagCs] at hq3 hq2
  have hrel6 : ∀ w6, RInv N kind xs T w ⟨2, sl, tn, nm, vl, q, l0⟩ j (.slice Av nv cv) w6 → RInv N kind xs T w ⟨2, sl, tn, (nm ++ [lowN x]), vl, q, l0⟩ (j + 1) (.slice Av nv cv) w6 := fun w6 h6 => by
    refine ⟨by simp, by omega, h6.hc, h6.ho, ?_, ?_, ?_, ?_, HLQ.out, HTn.out, h6.hb, h6.hx⟩
    · have h : l0.length ≤ j := h6.l1
      show l0.length ≤ j + 1
      omega
    · have h : nm.length ≤ j := h6.l2
      simp
      try omega
    · have h : vl.length ≤ j := h6.l3
      simp
      try omega
    · have h : tn.length ≤ j := h6.l4
      show tn.length ≤ j + 1
      omega
  have HR := Lib.hid hrel6
  clear hrel6
  go_wp2_with (first | (go_at_call 26; refine (hCB _).mono ?_; rintro r w1 ⟨rfl, e37⟩; obtain rfl := e37.symm; clear e37) | (go_at_call 25; refine (HCL.out _).mono ?_; rintro r w6 ⟨rfl, hb6⟩) | fail)
  have HM := Lib.hid (HI.out.on hb6)
  clear hb6
  go_wp2_with fail
  go_roundw
  case rel => exact ⟨_, j + 1, _, rfl, rfl, by rw [HS.out.2.2.2.2.1], by rw [← HS.out.2.1], rfl, rfl, HR.out _ HM.out⟩
  case measure => simp [RowKit.intOf]; omega
set_option maxHeartbeats 40000000 in
set_option maxRecDepth 100000 in
theorem refTag_s3 : refTag_parts.T3 := by
  intro b o cap n kind xs w T Q N hcap hlen hn HH K0 a0 wr u14 u15 u16 u20 u21 u22 u23 u24 u25 u26 u27 u28 u29 u30 u31 u32 u33 u34 u35 u36 u37 u38 u39 u40 u41 u42 u43 u44 u45 u46 u47 u48 u49 u50 u51 u52 u53 u54 u55 u56 u57 u58 u59 u60 u61 u62 u63 u64 u65 u66 u67 u68 u69 u70 u71 u72 u73 u74 u75 u76 u77 u78 u79 u80 u81 u82 u83 u84 u85 u86 u87 u88 u89 u90 u91 u92 u93 u94 u95 u96 u97 u98 u99 u100 u101 u102 u103 u104 u105 u106 u107 u108 u109 u110 u111 u112 u113 u114 u115 u116 u117 u118 u119 u120 u121 u122 u123 u124 u125 u126 u127 u128 u129 u130 u131 u132 u133 u134 u135 u136 u137 u138 u139 u140 u141 u142 u143 u144 u145 u146 u147 u148 u149 u150 u151 u152 u153 u154 u155 u156 u157 u158 u159 u160 u161 u162 u163 u164 u165 u166 u167 u168 u169 u170 u171 u172 u173 u174 u175 u176 u177 u178 u179 u180 u181 u182 u183 u184 u185 u186 u187 u188 u189 sl tn nm vl q l0 j Av nv cv hj z1 z0 hlt x left0 ST hzt SN hzn SV hzv SX hz1 SL hz2 HS HST HC HCL HD CBx HLQ K1 K2 K3 HT HI Q9 a1 a2 a3
  by_cases hB : blkB x = true
  case pos =>
    have hne := blk_not hB
    have b47 : ((x : Int) == 47) = false := by rw [beq_eq_false_iff_ne]; omega
    have b62 : ((x : Int) == 62) = false := by rw [beq_eq_false_iff_ne]; omega
    have b61 : ((x : Int) == 61) = false := by rw [beq_eq_false_iff_ne]; omega
    have b34 : ((x : Int) == 34) = false := by rw [beq_eq_false_iff_ne]; omega
    have b39 : ((x : Int) == 39) = false := by rw [beq_eq_false_iff_ne]; omega
    have hCB : ∀ W, Calls Tryz.prog 26 #[.int .u8 (x : Int)] W fun e w' => e = .returned (.bool true) ∧ w' = W := fun W => by have := CBx.out W; rw [hB] at this; exact this
    have hstep : refStep ⟨3, sl, tn, nm, vl, q, l0⟩ x = (⟨3, sl, tn, nm, vl, q, l0⟩, false) := by simp [refStep, hB, hne]
    have hTn : refGo N kind ⟨3, sl, tn, nm, vl, q, l0⟩ (xs.drop (j + 1)) = T := by rw [← HT.out, ref_on hstep]
    have HTn := Lib.hid hTn
    clear hstep hTn hne hB
    have hq3 := HC.out.cell 3
    have hq2 := HC.out.cell 2
    have hf3 := HC.out.froz 3
    have hf2 := HC.out.froz 2
    simp [tagCs] at hq3 hq2
    have hrel6 : ∀ w6, RInv N kind xs T w ⟨3, sl, tn, nm, vl, q, l0⟩ j (.slice Av nv cv) w6 → RInv N kind xs T w ⟨3, sl, tn, nm, vl, q, l0⟩ (j + 1) (.slice Av nv cv) w6 := fun w6 h6 => by
      refine ⟨by simp, by omega, h6.hc, h6.ho, ?_, ?_, ?_, ?_, HLQ.out, HTn.out, h6.hb, h6.hx⟩
      · have h : l0.length ≤ j := h6.l1
        show l0.length ≤ j + 1
        omega
      · have h : nm.length ≤ j := h6.l2
        simp
        try omega
      · have h : vl.length ≤ j := h6.l3
        simp
        try omega
      · have h : tn.length ≤ j := h6.l4
        show tn.length ≤ j + 1
        omega
    have HR := Lib.hid hrel6
    clear hrel6
    go_wp2_with (first | (go_at_call 26; refine (hCB _).mono ?_; rintro r w1 ⟨rfl, e37⟩; obtain rfl := e37.symm; clear e37) | fail)
    go_roundw
    case rel => exact ⟨_, j + 1, _, rfl, rfl, by rw [← HS.out.1], by rw [← HS.out.2.1], rfl, rfl, HR.out _ HI.out⟩
    case measure => simp [RowKit.intOf]; omega
  by_cases h61 : x = 61
  case pos =>
    subst h61
    have hbx : blkB 61 = false := rfl
    have hCB : ∀ W, Calls Tryz.prog 26 #[.int .u8 61] W fun e w' => e = .returned (.bool false) ∧ w' = W := fun W => CBx.out W
    have hstep : refStep ⟨3, sl, tn, nm, vl, q, l0⟩ 61 = (⟨4, sl, tn, nm, vl, q, l0⟩, false) := by simp [refStep, blkB]
    have hTn : refGo N kind ⟨4, sl, tn, nm, vl, q, l0⟩ (xs.drop (j + 1)) = T := by rw [← HT.out, ref_on hstep]
    have HTn := Lib.hid hTn
    clear hstep hTn hbx
    have hq3 := HC.out.cell 3
    have hq2 := HC.out.cell 2
    have hf3 := HC.out.froz 3
    have hf2 := HC.out.froz 2
    simp [tagCs] at hq3 hq2
    have hrel6 : ∀ w6, RInv N kind xs T w ⟨3, sl, tn, nm, vl, q, l0⟩ j (.slice Av nv cv) w6 → RInv N kind xs T w ⟨4, sl, tn, nm, vl, q, l0⟩ (j + 1) (.slice Av nv cv) w6 := fun w6 h6 => by
      refine ⟨by simp, by omega, h6.hc, h6.ho, ?_, ?_, ?_, ?_, HLQ.out, HTn.out, h6.hb, h6.hx⟩
      · have h : l0.length ≤ j := h6.l1
        show l0.length ≤ j + 1
        omega
      · have h : nm.length ≤ j := h6.l2
        simp
        try omega
      · have h : vl.length ≤ j := h6.l3
        simp
        try omega
      · have h : tn.length ≤ j := h6.l4
        show tn.length ≤ j + 1
        omega
    have HR := Lib.hid hrel6
    clear hrel6
    go_wp2_with (first | (go_at_call 26; refine (hCB _).mono ?_; rintro r w1 ⟨rfl, e37⟩; obtain rfl := e37.symm; clear e37) | fail)
    go_roundw
    case rel => exact ⟨_, j + 1, _, rfl, rfl, by rw [← HS.out.1], by rw [← HS.out.2.1], rfl, rfl, HR.out _ HI.out⟩
    case measure => simp [RowKit.intOf]; omega
  by_cases h47 : x = 47
  case pos =>
    subst h47
    have hbx : blkB 47 = false := rfl
    have hCB : ∀ W, Calls Tryz.prog 26 #[.int .u8 47] W fun e w' => e = .returned (.bool false) ∧ w' = W := fun W => CBx.out W
    have hstep : refStep ⟨3, sl, tn, nm, vl, q, l0⟩ 47 = (⟨1, true, tn, nm, vl, q, (l0 ++ [(nm, [])])⟩, false) := by simp [refStep, blkB]
    have hTn : refGo N kind ⟨1, true, tn, nm, vl, q, (l0 ++ [(nm, [])])⟩ (xs.drop (j + 1)) = T := by rw [← HT.out, ref_on hstep]
    have HTn := Lib.hid hTn
    clear hstep hTn hbx
    have hq3 := HC.out.cell 3
    have hq2 := HC.out.cell 2
    have hf3 := HC.out.froz 3
    have hf2 := HC.out.froz 2
    simp [tagCs] at hq3 hq2
    have hI := HI.out
    have hoR : OwnR wr (w.heap.size + 1 + 1) l0 (.slice Av nv cv) := hI.ho
    have hll : l0.length ≤ 1000000 := by have h1 : l0.length ≤ j := hI.l1; have h2 := HH.out.2.2.2.2.2.2; omega
    have hw0 : wr.alloc (.cells #[strV ((nm, []) : AT).1, strV ((nm, []) : AT).2] 96) = wr.alloc (.cells #[.string SN, .string ⟨#[]⟩] 96) := by
      unfold strV
      dsimp only
      rw [HS.out.1]
      rfl
    have HA := Lib.hid (And.intro hoR (And.intro hll (And.intro hI hw0)))
    clear hoR hll hI hw0
    go_wp2_with (first
      | (at_builtin; refine wpList_appR rfl (.tmp 103) (.tmp 106) rfl (w.heap.size + 1 + 1) _ l0 ((nm, []) : AT) rfl wr HA.out.1 HA.out.2.2.2 rfl HA.out.2.1 (by omega) ?_)
      | (go_at_call 26; refine (hCB _).mono ?_; rintro r w1 ⟨rfl, e37⟩; obtain rfl := e37.symm; clear e37)
      | fail)
    intro g5 cp5 w5 ho5 hb5
    have hw5 : Below w.heap.size w w5 := HA.out.2.2.1.hb.trans ⟨hb5.os, hb5.tape, hb5.output, hb5.size, fun k hk => hb5.block k (by omega)⟩
    have hc5 : Cells w5 (w.heap.size + 1) 56 (tagCs kind ST (.slice Av nv cv)) := (hb5.block _ (by omega)).trans (show wr.heap[w.heap.size + 1]? = _ from HC.out)
    have hx5 : Cells w5 w.heap.size 56 #[.int .i64 0, .int .i64 0, .string ⟨#[]⟩, .slice none 0 0, .bool false, .bool false] := (hb5.block _ (by omega)).trans (show wr.heap[w.heap.size]? = _ from HA.out.2.2.1.hx)
    clear hb5 hq3 hq2 hf3 hf2
    have hq3 := hc5.cell 3
    have hf3 := hc5.froz 3
    have hg5 := hc5.lt
    simp [tagCs] at hq3
    have hrel5 : RInv N kind xs T w ⟨1, true, tn, nm, vl, q, (l0 ++ [(nm, [])])⟩ (j + 1) (.slice (some ⟨g5, 0, none⟩) (l0.length + 1) cp5) (w5.setCell ⟨w.heap.size + 1, 3, none⟩ (.slice (some ⟨g5, 0, none⟩) (l0.length + 1) cp5)) := by
      refine ⟨by simp, by omega, ?_, ho5.set (by omega) 3 _, ?_, ?_, ?_, ?_, HLQ.out, HTn.out, hw5.setc (by omega) 3 _, (Fz.set (X := (· = w.heap.size + 1)) _ _ _ _ rfl).cells (by omega) hx5⟩
      · have h := hc5.set 3 (.slice (some ⟨g5, 0, none⟩) (l0.length + 1) cp5)
        rw [← HST.out] at h
        exact h
      · have h : l0.length ≤ j := HA.out.2.2.1.l1
        simp
        omega
      · have h : nm.length ≤ j := HA.out.2.2.1.l2
        simp
        try omega
      · have h : vl.length ≤ j := HA.out.2.2.1.l3
        simp
        try omega
      · have h : tn.length ≤ j := HA.out.2.2.1.l4
        show tn.length ≤ j + 1
        omega
    have HR := Lib.hid hrel5
    clear hrel5 ho5 hw5 hc5 hx5
    go_wp2_with fail
    go_roundw
    case rel => exact ⟨_, j + 1, _, rfl, rfl, by rw [← HS.out.1], by rw [← HS.out.2.1], rfl, rfl, HR.out⟩
    case measure => simp [RowKit.intOf]; omega
  by_cases h62 : x = 62
  case pos =>
    subst h62
    have hbx : blkB 62 = false := rfl
    have hCB : ∀ W, Calls Tryz.prog 26 #[.int .u8 62] W fun e w' => e = .returned (.bool false) ∧ w' = W := fun W => CBx.out W
    have hstep : refStep ⟨3, sl, tn, nm, vl, q, l0⟩ 62 = (⟨1, false, tn, nm, vl, q, (l0 ++ [(nm, [])])⟩, true) := by simp [refStep, blkB]
    have hTT : (⟨kind, j + 1, tn, l0 ++ [(nm, [])], false, true⟩ : TG) = T := by rw [← HT.out, ref_end hstep, HD.out.1]
    have HTT := Lib.hid hTT
    clear hstep hTT hbx
    have hq3 := HC.out.cell 3
    have hq2 := HC.out.cell 2
    have hf3 := HC.out.froz 3
    have hf2 := HC.out.froz 2
    simp [tagCs] at hq3 hq2
    have hI := HI.out
    have hoR : OwnR wr (w.heap.size + 1 + 1) l0 (.slice Av nv cv) := hI.ho
    have hll : l0.length ≤ 1000000 := by have h1 : l0.length ≤ j := hI.l1; have h2 := HH.out.2.2.2.2.2.2; omega
    have hw0 : wr.alloc (.cells #[strV ((nm, []) : AT).1, strV ((nm, []) : AT).2] 96) = wr.alloc (.cells #[.string SN, .string ⟨#[]⟩] 96) := by
      unfold strV
      dsimp only
      rw [HS.out.1]
      rfl
    have HA := Lib.hid (And.intro hoR (And.intro hll (And.intro hI hw0)))
    clear hoR hll hI hw0
    go_wp2_with (first
      | (at_builtin; refine wpList_appR rfl (.tmp 103) (.tmp 106) rfl (w.heap.size + 1 + 1) _ l0 ((nm, []) : AT) rfl wr HA.out.1 HA.out.2.2.2 rfl HA.out.2.1 (by omega) ?_)
      | (go_at_call 26; refine (hCB _).mono ?_; rintro r w1 ⟨rfl, e37⟩; obtain rfl := e37.symm; clear e37)
      | fail)
    intro g5 cp5 w5 ho5 hb5
    have hw5 : Below w.heap.size w w5 := HA.out.2.2.1.hb.trans ⟨hb5.os, hb5.tape, hb5.output, hb5.size, fun k hk => hb5.block k (by omega)⟩
    have hc5 : Cells w5 (w.heap.size + 1) 56 (tagCs kind ST (.slice Av nv cv)) := (hb5.block _ (by omega)).trans (show wr.heap[w.heap.size + 1]? = _ from HC.out)
    have hx5 : Cells w5 w.heap.size 56 #[.int .i64 0, .int .i64 0, .string ⟨#[]⟩, .slice none 0 0, .bool false, .bool false] := (hb5.block _ (by omega)).trans (show wr.heap[w.heap.size]? = _ from HA.out.2.2.1.hx)
    clear hb5 hq3 hq2 hf3 hf2
    have q0 := (hc5).cell 0
    have fr0 := (hc5).froz 0
    have s0 := (hx5).cell 0
    have t0 := (hx5).froz 0
    have q1 := (hc5).cell 1
    have fr1 := (hc5).froz 1
    have s1 := (hx5).cell 1
    have t1 := (hx5).froz 1
    have q2 := (hc5).cell 2
    have fr2 := (hc5).froz 2
    have s2 := (hx5).cell 2
    have t2 := (hx5).froz 2
    have q3 := (hc5).cell 3
    have fr3 := (hc5).froz 3
    have s3 := (hx5).cell 3
    have t3 := (hx5).froz 3
    have q4 := (hc5).cell 4
    have fr4 := (hc5).froz 4
    have s4 := (hx5).cell 4
    have t4 := (hx5).froz 4
    have q5 := (hc5).cell 5
    have fr5 := (hc5).froz 5
    have s5 := (hx5).cell 5
    have t5 := (hx5).froz 5
    simp [tagCs] at q0 q1 q2 q3 q4 q5 s0 s1 s2 s3 s4 s5
    have ho6 := ho5.set (j := w.heap.size + 1) (by omega) 3 (.slice (some ⟨g5, 0, none⟩) (l0.length + 1) cp5)
    have hb6 := hw5.setc (j := w.heap.size + 1) (by omega) 3 (.slice (some ⟨g5, 0, none⟩) (l0.length + 1) cp5)
    have HF := Lib.hid (And.intro ho6 hb6)
    clear ho5 hw5 hc5 hx5 ho6 hb6
    go_wp2_with fail
    refine bodyPost_ret (v := .agg #[.int .i64 (kind : Int), .int .i64 ((j : Int) + 1), .string ST, .slice (some ⟨g5, 0, none⟩) (l0.length + 1) cp5, .bool false, .bool true]) ?_ rfl ?_
    · simp [results, Tryz.results39, go_sem, s0, s1, s2, s3, s4, s5]
    · have h := HH.out.2.2.2.1 _ (.slice (some ⟨g5, 0, none⟩) (l0.length + 1) cp5) _ HTT.out (((((((((HF.out.1.set (j := w.heap.size + 1) (by omega) 1 (.int .i64 ((j : Int) + 1))).set (j := w.heap.size + 1) (by omega) 5 (.bool true)).set (j := w.heap.size + 1) (by omega) 4 (.bool false)).set (j := w.heap.size) (by omega) 0 (.int .i64 (kind : Int))).set (j := w.heap.size) (by omega) 1 (.int .i64 ((j : Int) + 1))).set (j := w.heap.size) (by omega) 2 (.string ST)).set (j := w.heap.size) (by omega) 3 (.slice (some ⟨g5, 0, none⟩) (l0.length + 1) cp5)).set (j := w.heap.size) (by omega) 4 (.bool false)).set (j := w.heap.size) (by omega) 5 (.bool true)) (((((((((HF.out.2.setc (j := w.heap.size + 1) (by omega) 1 (.int .i64 ((j : Int) + 1))).setc (j := w.heap.size + 1) (by omega) 5 (.bool true)).setc (j := w.heap.size + 1) (by omega) 4 (.bool false)).setc (j := w.heap.size) (by omega) 0 (.int .i64 (kind : Int))).setc (j := w.heap.size) (by omega) 1 (.int .i64 ((j : Int) + 1))).setc (j := w.heap.size) (by omega) 2 (.string ST)).setc (j := w.heap.size) (by omega) 3 (.slice (some ⟨g5, 0, none⟩) (l0.length + 1) cp5)).setc (j := w.heap.size) (by omega) 4 (.bool false)).setc (j := w.heap.size) (by omega) 5 (.bool true))
      unfold tagV strV at h
      dsimp only at h
      rw [HST.out] at h
      exact h
  have hBf : blkB x = false := by simpa using hB
  have hCB : ∀ W, Calls Tryz.prog 26 #[.int .u8 (x : Int)] W fun e w' => e = .returned (.bool false) ∧ w' = W := fun W => by have := CBx.out W; rw [hBf] at this; exact this
  have b62 : ((x : Int) == 62) = false := by rw [beq_eq_false_iff_ne]; omega
  have n62 : ((x : Int) != 62) = true := by rw [bne_iff_ne]; omega
  have b47 : ((x : Int) == 47) = false := by rw [beq_eq_false_iff_ne]; omega
  have n47 : ((x : Int) != 47) = true := by rw [bne_iff_ne]; omega
  have b61 : ((x : Int) == 61) = false := by rw [beq_eq_false_iff_ne]; omega
  have hstep : refStep ⟨3, sl, tn, nm, vl, q, l0⟩ x = (⟨2, false, tn, [lowN x], [], q, (l0 ++ [(nm, [])])⟩, false) := by simp [refStep, hBf, h62, h47, h61]
  have hTn : refGo N kind ⟨2, false, tn, [lowN x], [], q, (l0 ++ [(nm, [])])⟩ (xs.drop (j + 1)) = T := by rw [← HT.out, ref_on hstep]
  have HTn := Lib.hid hTn
  clear hstep hTn hBf
  have hq3 := HC.out.cell 3
  have hq2 := HC.out.cell 2
  have hf3 := HC.out.froz 3
  have hf2 := HC.out.froz 2
  simp [tagCs] at hq3 hq2
  have hI := HI.out
  have hoR : OwnR wr (w.heap.size + 1 + 1) l0 (.slice Av nv cv) := hI.ho
  have hll : l0.length ≤ 1000000 := by have h1 : l0.length ≤ j := hI.l1; have h2 := HH.out.2.2.2.2.2.2; omega
  have hw0 : wr.alloc (.cells #[strV ((nm, []) : AT).1, strV ((nm, []) : AT).2] 96) = wr.alloc (.cells #[.string SN, .string ⟨#[]⟩] 96) := by
    unfold strV
    dsimp only
    rw [HS.out.1]
    rfl
  have HA := Lib.hid (And.intro hoR (And.intro hll (And.intro hI hw0)))
  clear hoR hll hI hw0
  go_wp2_with (first
    | (at_builtin; refine wpList_appR rfl (.tmp 103) (.tmp 106) rfl (w.heap.size + 1 + 1) _ l0 ((nm, []) : AT) rfl wr HA.out.1 HA.out.2.2.2 rfl HA.out.2.1 (by omega) ?_)
    | (go_at_call 26; refine (hCB _).mono ?_; rintro r w1 ⟨rfl, e37⟩; obtain rfl := e37.symm; clear e37)
    | fail)
  intro g5 cp5 w5 ho5 hb5
  have hw5 : Below w.heap.size w w5 := HA.out.2.2.1.hb.trans ⟨hb5.os, hb5.tape, hb5.output, hb5.size, fun k hk => hb5.block k (by omega)⟩
  have hc5 : Cells w5 (w.heap.size + 1) 56 (tagCs kind ST (.slice Av nv cv)) := (hb5.block _ (by omega)).trans (show wr.heap[w.heap.size + 1]? = _ from HC.out)
  have hx5 : Cells w5 w.heap.size 56 #[.int .i64 0, .int .i64 0, .string ⟨#[]⟩, .slice none 0 0, .bool false, .bool false] := (hb5.block _ (by omega)).trans (show wr.heap[w.heap.size]? = _ from HA.out.2.2.1.hx)
  clear hb5 hq3 hq2 hf3 hf2
  have hq3 := hc5.cell 3
  have hf3 := hc5.froz 3
  have hg5 := hc5.lt
  simp [tagCs] at hq3
  have hrel5 : RInv N kind xs T w ⟨2, false, tn, [lowN x], [], q, (l0 ++ [(nm, [])])⟩ (j + 1) (.slice (some ⟨g5, 0, none⟩) (l0.length + 1) cp5) (w5.setCell ⟨w.heap.size + 1, 3, none⟩ (.slice (some ⟨g5, 0, none⟩) (l0.length + 1) cp5)) := by
    refine ⟨by simp, by omega, ?_, ho5.set (by omega) 3 _, ?_, ?_, ?_, ?_, HLQ.out, HTn.out, hw5.setc (by omega) 3 _, (Fz.set (X := (· = w.heap.size + 1)) _ _ _ _ rfl).cells (by omega) hx5⟩
    · have h := hc5.set 3 (.slice (some ⟨g5, 0, none⟩) (l0.length + 1) cp5)
      rw [← HST.out] at h
      exact h
    · have h : l0.length ≤ j := HA.out.2.2.1.l1
      simp
      omega
    · have h : nm.length ≤ j := HA.out.2.2.1.l2
      simp
      try omega
    · have h : vl.length ≤ j := HA.out.2.2.1.l3
      simp
      try omega
    · have h : tn.length ≤ j := HA.out.2.2.1.l4
      show tn.length ≤ j + 1
      omega
  have HR := Lib.hid hrel5
  clear hrel5 ho5 hw5 hc5 hx5
  go_wp2_with (first | (go_at_call 25; refine (HCL.out _).mono ?_; rintro r w6 ⟨rfl, hb6⟩) | fail)
  have hm6 : RRel N kind xs T w (.int .i64 2) (.bool false) (.string SL) (.string ⟨#[]⟩) (.int .u8 (q : Int)) (.int .i64 ((j : Int) + 1)) w6 := ⟨_, j + 1, _, rfl, rfl, by rw [← HS.out.2.2.2.1], rfl, rfl, rfl, HR.out.on hb6⟩
  have HM := Lib.hid hm6
  clear hm6 hb6
  go_wp2_with fail
  go_roundw
  case rel => exact HM.out
  case measure => simp [RowKit.intOf]; omega
set_option maxHeartbeats 40000000 in
set_option maxRecDepth 100000 in
theorem refTag_s4 : refTag_parts.T4 := by
  intro b o cap n kind xs w T Q N hcap hlen hn HH K0 a0 wr u14 u15 u16 u20 u21 u22 u23 u24 u25 u26 u27 u28 u29 u30 u31 u32 u33 u34 u35 u36 u37 u38 u39 u40 u41 u42 u43 u44 u45 u46 u47 u48 u49 u50 u51 u52 u53 u54 u55 u56 u57 u58 u59 u60 u61 u62 u63 u64 u65 u66 u67 u68 u69 u70 u71 u72 u73 u74 u75 u76 u77 u78 u79 u80 u81 u82 u83 u84 u85 u86 u87 u88 u89 u90 u91 u92 u93 u94 u95 u96 u97 u98 u99 u100 u101 u102 u103 u104 u105 u106 u107 u108 u109 u110 u111 u112 u113 u114 u115 u116 u117 u118 u119 u120 u121 u122 u123 u124 u125 u126 u127 u128 u129 u130 u131 u132 u133 u134 u135 u136 u137 u138 u139 u140 u141 u142 u143 u144 u145 u146 u147 u148 u149 u150 u151 u152 u153 u154 u155 u156 u157 u158 u159 u160 u161 u162 u163 u164 u165 u166 u167 u168 u169 u170 u171 u172 u173 u174 u175 u176 u177 u178 u179 u180 u181 u182 u183 u184 u185 u186 u187 u188 u189 sl tn nm vl q l0 j Av nv cv hj z1 z0 hlt x left0 ST hzt SN hzn SV hzv SX hz1 SL hz2 HS HST HC HCL HD CBx HLQ K1 K2 K3 HT HI Q9 a1 a2 a3
  by_cases hB : blkB x = true
  case pos =>
    have hne := blk_not hB
    have b47 : ((x : Int) == 47) = false := by rw [beq_eq_false_iff_ne]; omega
    have b62 : ((x : Int) == 62) = false := by rw [beq_eq_false_iff_ne]; omega
    have b61 : ((x : Int) == 61) = false := by rw [beq_eq_false_iff_ne]; omega
    have b34 : ((x : Int) == 34) = false := by rw [beq_eq_false_iff_ne]; omega
    have b39 : ((x : Int) == 39) = false := by rw [beq_eq_false_iff_ne]; omega
    have hCB : ∀ W, Calls Tryz.prog 26 #[.int .u8 (x : Int)] W fun e w' => e = .returned (.bool true) ∧ w' = W := fun W => by have := CBx.out W; rw [hB] at this; exact this
    have hstep : refStep ⟨4, sl, tn, nm, vl, q, l0⟩ x = (⟨4, sl, tn, nm, vl, q, l0⟩, false) := by simp [refStep, hB, hne]
    have hTn : refGo N kind ⟨4, sl, tn, nm, vl, q, l0⟩ (xs.drop (j + 1)) = T := by rw [← HT.out, ref_on hstep]
    have HTn := Lib.hid hTn
    clear hstep hTn hne hB
    have hq3 := HC.out.cell 3
    have hq2 := HC.out.cell 2
    have hf3 := HC.out.froz 3
    have hf2 := HC.out.froz 2
    simp [tagCs] at hq3 hq2
    have hrel6 : ∀ w6, RInv N kind xs T w ⟨4, sl, tn, nm, vl, q, l0⟩ j (.slice Av nv cv) w6 → RInv N kind xs T w ⟨4, sl, tn, nm, vl, q, l0⟩ (j + 1) (.slice Av nv cv) w6 := fun w6 h6 => by
      refine ⟨by simp, by omega, h6.hc, h6.ho, ?_, ?_, ?_, ?_, HLQ.out, HTn.out, h6.hb, h6.hx⟩
      · have h : l0.length ≤ j := h6.l1
        show l0.length ≤ j + 1
        omega
      · have h : nm.length ≤ j := h6.l2
        simp
        try omega
      · have h : vl.length ≤ j := h6.l3
        simp
        try omega
      · have h : tn.length ≤ j := h6.l4
        show tn.length ≤ j + 1
        omega
    have HR := Lib.hid hrel6
    clear hrel6
    go_wp2_with (first | (go_at_call 26; refine (hCB _).mono ?_; rintro r w1 ⟨rfl, e37⟩; obtain rfl := e37.symm; clear e37) | fail)
    go_roundw
    case rel => exact ⟨_, j + 1, _, rfl, rfl, by rw [← HS.out.1], by rw [← HS.out.2.1], rfl, rfl, HR.out _ HI.out⟩
    case measure => simp [RowKit.intOf]; omega
  by_cases h34 : x = 34
  case pos =>
    subst h34
    have hbx : blkB 34 = false := rfl
    have hCB : ∀ W, Calls Tryz.prog 26 #[.int .u8 34] W fun e w' => e = .returned (.bool false) ∧ w' = W := fun W => CBx.out W
    have hstep : refStep ⟨4, sl, tn, nm, vl, q, l0⟩ 34 = (⟨6, sl, tn, nm, vl, 34, l0⟩, false) := by simp [refStep, blkB]
    have hTn : refGo N kind ⟨6, sl, tn, nm, vl, 34, l0⟩ (xs.drop (j + 1)) = T := by rw [← HT.out, ref_on hstep]
    have HTn := Lib.hid hTn
    clear hstep hTn hbx
    have hq3 := HC.out.cell 3
    have hq2 := HC.out.cell 2
    have hf3 := HC.out.froz 3
    have hf2 := HC.out.froz 2
    simp [tagCs] at hq3 hq2
    have hrel6 : ∀ w6, RInv N kind xs T w ⟨4, sl, tn, nm, vl, q, l0⟩ j (.slice Av nv cv) w6 → RInv N kind xs T w ⟨6, sl, tn, nm, vl, 34, l0⟩ (j + 1) (.slice Av nv cv) w6 := fun w6 h6 => by
      refine ⟨by simp, by omega, h6.hc, h6.ho, ?_, ?_, ?_, ?_, HD.out.2.2, HTn.out, h6.hb, h6.hx⟩
      · have h : l0.length ≤ j := h6.l1
        show l0.length ≤ j + 1
        omega
      · have h : nm.length ≤ j := h6.l2
        simp
        try omega
      · have h : vl.length ≤ j := h6.l3
        simp
        try omega
      · have h : tn.length ≤ j := h6.l4
        show tn.length ≤ j + 1
        omega
    have HR := Lib.hid hrel6
    clear hrel6
    go_wp2_with (first | (go_at_call 26; refine (hCB _).mono ?_; rintro r w1 ⟨rfl, e37⟩; obtain rfl := e37.symm; clear e37) | fail)
    go_roundw
    case rel => exact ⟨_, j + 1, _, rfl, rfl, by rw [← HS.out.1], by rw [← HS.out.2.1], rfl, rfl, HR.out _ HI.out⟩
    case measure => simp [RowKit.intOf]; omega
  by_cases h39 : x = 39
  case pos =>
    subst h39
    have hbx : blkB 39 = false := rfl
    have hCB : ∀ W, Calls Tryz.prog 26 #[.int .u8 39] W fun e w' => e = .returned (.bool false) ∧ w' = W := fun W => CBx.out W
    have hstep : refStep ⟨4, sl, tn, nm, vl, q, l0⟩ 39 = (⟨6, sl, tn, nm, vl, 39, l0⟩, false) := by simp [refStep, blkB]
    have hTn : refGo N kind ⟨6, sl, tn, nm, vl, 39, l0⟩ (xs.drop (j + 1)) = T := by rw [← HT.out, ref_on hstep]
    have HTn := Lib.hid hTn
    clear hstep hTn hbx
    have hq3 := HC.out.cell 3
    have hq2 := HC.out.cell 2
    have hf3 := HC.out.froz 3
    have hf2 := HC.out.froz 2
    simp [tagCs] at hq3 hq2
    have hrel6 : ∀ w6, RInv N kind xs T w ⟨4, sl, tn, nm, vl, q, l0⟩ j (.slice Av nv cv) w6 → RInv N kind xs T w ⟨6, sl, tn, nm, vl, 39, l0⟩ (j + 1) (.slice Av nv cv) w6 := fun w6 h6 => by
      refine ⟨by simp, by omega, h6.hc, h6.ho, ?_, ?_, ?_, ?_, HD.out.2.2, HTn.out, h6.hb, h6.hx⟩
      · have h : l0.length ≤ j := h6.l1
        show l0.length ≤ j + 1
        omega
      · have h : nm.length ≤ j := h6.l2
        simp
        try omega
      · have h : vl.length ≤ j := h6.l3
        simp
        try omega
      · have h : tn.length ≤ j := h6.l4
        show tn.length ≤ j + 1
        omega
    have HR := Lib.hid hrel6
    clear hrel6
    go_wp2_with (first | (go_at_call 26; refine (hCB _).mono ?_; rintro r w1 ⟨rfl, e37⟩; obtain rfl := e37.symm; clear e37) | fail)
    go_roundw
    case rel => exact ⟨_, j + 1, _, rfl, rfl, by rw [← HS.out.1], by rw [← HS.out.2.1], rfl, rfl, HR.out _ HI.out⟩
    case measure => simp [RowKit.intOf]; omega
  by_cases h62 : x = 62
  case pos =>
    subst h62
    have hbx : blkB 62 = false := rfl
    have hCB : ∀ W, Calls Tryz.prog 26 #[.int .u8 62] W fun e w' => e = .returned (.bool false) ∧ w' = W := fun W => CBx.out W
    have hstep : refStep ⟨4, sl, tn, nm, vl, q, l0⟩ 62 = (⟨1, false, tn, nm, vl, q, (l0 ++ [(nm, [])])⟩, true) := by simp [refStep, blkB]
    have hTT : (⟨kind, j + 1, tn, l0 ++ [(nm, [])], false, true⟩ : TG) = T := by rw [← HT.out, ref_end hstep, HD.out.1]
    have HTT := Lib.hid hTT
    clear hstep hTT hbx
    have hq3 := HC.out.cell 3
    have hq2 := HC.out.cell 2
    have hf3 := HC.out.froz 3
    have hf2 := HC.out.froz 2
    simp [tagCs] at hq3 hq2
    have hI := HI.out
    have hoR : OwnR wr (w.heap.size + 1 + 1) l0 (.slice Av nv cv) := hI.ho
    have hll : l0.length ≤ 1000000 := by have h1 : l0.length ≤ j := hI.l1; have h2 := HH.out.2.2.2.2.2.2; omega
    have hw0 : wr.alloc (.cells #[strV ((nm, []) : AT).1, strV ((nm, []) : AT).2] 96) = wr.alloc (.cells #[.string SN, .string ⟨#[]⟩] 96) := by
      unfold strV
      dsimp only
      rw [HS.out.1]
      rfl
    have HA := Lib.hid (And.intro hoR (And.intro hll (And.intro hI hw0)))
    clear hoR hll hI hw0
    go_wp2_with (first
      | (at_builtin; refine wpList_appR rfl (.tmp 142) (.tmp 145) rfl (w.heap.size + 1 + 1) _ l0 ((nm, []) : AT) rfl wr HA.out.1 HA.out.2.2.2 rfl HA.out.2.1 (by omega) ?_)
      | (go_at_call 26; refine (hCB _).mono ?_; rintro r w1 ⟨rfl, e37⟩; obtain rfl := e37.symm; clear e37)
      | fail)
    intro g5 cp5 w5 ho5 hb5
    have hw5 : Below w.heap.size w w5 := HA.out.2.2.1.hb.trans ⟨hb5.os, hb5.tape, hb5.output, hb5.size, fun k hk => hb5.block k (by omega)⟩
    have hc5 : Cells w5 (w.heap.size + 1) 56 (tagCs kind ST (.slice Av nv cv)) := (hb5.block _ (by omega)).trans (show wr.heap[w.heap.size + 1]? = _ from HC.out)
    have hx5 : Cells w5 w.heap.size 56 #[.int .i64 0, .int .i64 0, .string ⟨#[]⟩, .slice none 0 0, .bool false, .bool false] := (hb5.block _ (by omega)).trans (show wr.heap[w.heap.size]? = _ from HA.out.2.2.1.hx)
    clear hb5 hq3 hq2 hf3 hf2
    have q0 := (hc5).cell 0
    have fr0 := (hc5).froz 0
    have s0 := (hx5).cell 0
    have t0 := (hx5).froz 0
    have q1 := (hc5).cell 1
    have fr1 := (hc5).froz 1
    have s1 := (hx5).cell 1
    have t1 := (hx5).froz 1
    have q2 := (hc5).cell 2
    have fr2 := (hc5).froz 2
    have s2 := (hx5).cell 2
    have t2 := (hx5).froz 2
    have q3 := (hc5).cell 3
    have fr3 := (hc5).froz 3
    have s3 := (hx5).cell 3
    have t3 := (hx5).froz 3
    have q4 := (hc5).cell 4
    have fr4 := (hc5).froz 4
    have s4 := (hx5).cell 4
    have t4 := (hx5).froz 4
    have q5 := (hc5).cell 5
    have fr5 := (hc5).froz 5
    have s5 := (hx5).cell 5
    have t5 := (hx5).froz 5
    simp [tagCs] at q0 q1 q2 q3 q4 q5 s0 s1 s2 s3 s4 s5
    have ho6 := ho5.set (j := w.heap.size + 1) (by omega) 3 (.slice (some ⟨g5, 0, none⟩) (l0.length + 1) cp5)
    have hb6 := hw5.setc (j := w.heap.size + 1) (by omega) 3 (.slice (some ⟨g5, 0, none⟩) (l0.length + 1) cp5)
    have HF := Lib.hid (And.intro ho6 hb6)
    clear ho5 hw5 hc5 hx5 ho6 hb6
    go_wp2_with fail
    refine bodyPost_ret (v := .agg #[.int .i64 (kind : Int), .int .i64 ((j : Int) + 1), .string ST, .slice (some ⟨g5, 0, none⟩) (l0.length + 1) cp5, .bool false, .bool true]) ?_ rfl ?_
    · simp [results, Tryz.results39, go_sem, s0, s1, s2, s3, s4, s5]
    · have h := HH.out.2.2.2.1 _ (.slice (some ⟨g5, 0, none⟩) (l0.length + 1) cp5) _ HTT.out (((((((((HF.out.1.set (j := w.heap.size + 1) (by omega) 1 (.int .i64 ((j : Int) + 1))).set (j := w.heap.size + 1) (by omega) 5 (.bool true)).set (j := w.heap.size + 1) (by omega) 4 (.bool false)).set (j := w.heap.size) (by omega) 0 (.int .i64 (kind : Int))).set (j := w.heap.size) (by omega) 1 (.int .i64 ((j : Int) + 1))).set (j := w.heap.size) (by omega) 2 (.string ST)).set (j := w.heap.size) (by omega) 3 (.slice (some ⟨g5, 0, none⟩) (l0.length + 1) cp5)).set (j := w.heap.size) (by omega) 4 (.bool false)).set (j := w.heap.size) (by omega) 5 (.bool true)) (((((((((HF.out.2.setc (j := w.heap.size + 1) (by omega) 1 (.int .i64 ((j : Int) + 1))).setc (j := w.heap.size + 1) (by omega) 5 (.bool true)).setc (j := w.heap.size + 1) (by omega) 4 (.bool false)).setc (j := w.heap.size) (by omega) 0 (.int .i64 (kind : Int))).setc (j := w.heap.size) (by omega) 1 (.int .i64 ((j : Int) + 1))).setc (j := w.heap.size) (by omega) 2 (.string ST)).setc (j := w.heap.size) (by omega) 3 (.slice (some ⟨g5, 0, none⟩) (l0.length + 1) cp5)).setc (j := w.heap.size) (by omega) 4 (.bool false)).setc (j := w.heap.size) (by omega) 5 (.bool true))
      unfold tagV strV at h
      dsimp only at h
      rw [HST.out] at h
      exact h
  have hBf : blkB x = false := by simpa using hB
  have hCB : ∀ W, Calls Tryz.prog 26 #[.int .u8 (x : Int)] W fun e w' => e = .returned (.bool false) ∧ w' = W := fun W => by have := CBx.out W; rw [hBf] at this; exact this
  have b62 : ((x : Int) == 62) = false := by rw [beq_eq_false_iff_ne]; omega
  have n62 : ((x : Int) != 62) = true := by rw [bne_iff_ne]; omega
  have b34 : ((x : Int) == 34) = false := by rw [beq_eq_false_iff_ne]; omega
  have b39 : ((x : Int) == 39) = false := by rw [beq_eq_false_iff_ne]; omega
  have hstep : refStep ⟨4, sl, tn, nm, vl, q, l0⟩ x = (⟨5, sl, tn, nm, [x], q, l0⟩, false) := by simp [refStep, hBf, h62, h34, h39]
  have hTn : refGo N kind ⟨5, sl, tn, nm, [x], q, l0⟩ (xs.drop (j + 1)) = T := by rw [← HT.out, ref_on hstep]
  have HTn := Lib.hid hTn
  clear hstep hTn hBf
  have hq3 := HC.out.cell 3
  have hq2 := HC.out.cell 2
  have hf3 := HC.out.froz 3
  have hf2 := HC.out.froz 2
  simp [tagCs] at hq3 hq2
  have hrel6 : ∀ w6, RInv N kind xs T w ⟨4, sl, tn, nm, vl, q, l0⟩ j (.slice Av nv cv) w6 → RInv N kind xs T w ⟨5, sl, tn, nm, [x], q, l0⟩ (j + 1) (.slice Av nv cv) w6 := fun w6 h6 => by
    refine ⟨by simp, by omega, h6.hc, h6.ho, ?_, ?_, ?_, ?_, HLQ.out, HTn.out, h6.hb, h6.hx⟩
    · have h : l0.length ≤ j := h6.l1
      show l0.length ≤ j + 1
      omega
    · have h : nm.length ≤ j := h6.l2
      simp
      try omega
    · have h : vl.length ≤ j := h6.l3
      simp
      try omega
    · have h : tn.length ≤ j := h6.l4
      show tn.length ≤ j + 1
      omega
  have HR := Lib.hid hrel6
  clear hrel6
  go_wp2_with (first | (go_at_call 26; refine (hCB _).mono ?_; rintro r w1 ⟨rfl, e37⟩; obtain rfl := e37.symm; clear e37) | fail)
  go_roundw
  case rel => exact ⟨_, j + 1, _, rfl, rfl, by rw [← HS.out.1], by rw [← HS.out.2.2.1], rfl, rfl, HR.out _ HI.out⟩
  case measure => simp [RowKit.intOf]; omega
set_option maxHeartbeats 40000000 in
set_option maxRecDepth 100000 in
theorem refTag_s5 : refTag_parts.T5 := by
  intro b o cap n kind xs w T Q N hcap hlen hn HH K0 a0 wr u14 u15 u16 u20 u21 u22 u23 u24 u25 u26 u27 u28 u29 u30 u31 u32 u33 u34 u35 u36 u37 u38 u39 u40 u41 u42 u43 u44 u45 u46 u47 u48 u49 u50 u51 u52 u53 u54 u55 u56 u57 u58 u59 u60 u61 u62 u63 u64 u65 u66 u67 u68 u69 u70 u71 u72 u73 u74 u75 u76 u77 u78 u79 u80 u81 u82 u83 u84 u85 u86 u87 u88 u89 u90 u91 u92 u93 u94 u95 u96 u97 u98 u99 u100 u101 u102 u103 u104 u105 u106 u107 u108 u109 u110 u111 u112 u113 u114 u115 u116 u117 u118 u119 u120 u121 u122 u123 u124 u125 u126 u127 u128 u129 u130 u131 u132 u133 u134 u135 u136 u137 u138 u139 u140 u141 u142 u143 u144 u145 u146 u147 u148 u149 u150 u151 u152 u153 u154 u155 u156 u157 u158 u159 u160 u161 u162 u163 u164 u165 u166 u167 u168 u169 u170 u171 u172 u173 u174 u175 u176 u177 u178 u179 u180 u181 u182 u183 u184 u185 u186 u187 u188 u189 sl tn nm vl q l0 j Av nv cv hj z1 z0 hlt x left0 ST hzt SN hzn SV hzv SX hz1 SL hz2 HS HST HC HCL HD CBx HLQ K1 K2 K3 HT HI Q9 a1 a2 a3
  by_cases hB : blkB x = true
  case pos =>
    have hne := blk_not hB
    have b47 : ((x : Int) == 47) = false := by rw [beq_eq_false_iff_ne]; omega
    have b62 : ((x : Int) == 62) = false := by rw [beq_eq_false_iff_ne]; omega
    have b61 : ((x : Int) == 61) = false := by rw [beq_eq_false_iff_ne]; omega
    have b34 : ((x : Int) == 34) = false := by rw [beq_eq_false_iff_ne]; omega
    have b39 : ((x : Int) == 39) = false := by rw [beq_eq_false_iff_ne]; omega
    have hCB : ∀ W, Calls Tryz.prog 26 #[.int .u8 (x : Int)] W fun e w' => e = .returned (.bool true) ∧ w' = W := fun W => by have := CBx.out W; rw [hB] at this; exact this
    have hstep : refStep ⟨5, sl, tn, nm, vl, q, l0⟩ x = (⟨1, false, tn, nm, vl, q, (l0 ++ [(nm, vl)])⟩, false) := by simp [refStep, hB, hne]
    have hTn : refGo N kind ⟨1, false, tn, nm, vl, q, (l0 ++ [(nm, vl)])⟩ (xs.drop (j + 1)) = T := by rw [← HT.out, ref_on hstep]
    have HTn := Lib.hid hTn
    clear hstep hTn hne hB
    have hq3 := HC.out.cell 3
    have hq2 := HC.out.cell 2
    have hf3 := HC.out.froz 3
    have hf2 := HC.out.froz 2
    simp [tagCs] at hq3 hq2
    have hI := HI.out
    have hoR : OwnR wr (w.heap.size + 1 + 1) l0 (.slice Av nv cv) := hI.ho
    have hll : l0.length ≤ 1000000 := by have h1 : l0.length ≤ j := hI.l1; have h2 := HH.out.2.2.2.2.2.2; omega
    have hw0 : wr.alloc (.cells #[strV ((nm, vl) : AT).1, strV ((nm, vl) : AT).2] 96) = wr.alloc (.cells #[.string SN, .string SV] 96) := by
      unfold strV
      dsimp only
      rw [HS.out.1, HS.out.2.1]
    have HA := Lib.hid (And.intro hoR (And.intro hll (And.intro hI hw0)))
    clear hoR hll hI hw0
    go_wp2_with (first
      | (at_builtin; refine wpList_appR rfl (.tmp 156) (.tmp 160) rfl (w.heap.size + 1 + 1) _ l0 ((nm, vl) : AT) rfl wr HA.out.1 HA.out.2.2.2 rfl HA.out.2.1 (by omega) ?_)
      | (go_at_call 26; refine (hCB _).mono ?_; rintro r w1 ⟨rfl, e37⟩; obtain rfl := e37.symm; clear e37)
      | fail)
    intro g5 cp5 w5 ho5 hb5
    have hw5 : Below w.heap.size w w5 := HA.out.2.2.1.hb.trans ⟨hb5.os, hb5.tape, hb5.output, hb5.size, fun k hk => hb5.block k (by omega)⟩
    have hc5 : Cells w5 (w.heap.size + 1) 56 (tagCs kind ST (.slice Av nv cv)) := (hb5.block _ (by omega)).trans (show wr.heap[w.heap.size + 1]? = _ from HC.out)
    have hx5 : Cells w5 w.heap.size 56 #[.int .i64 0, .int .i64 0, .string ⟨#[]⟩, .slice none 0 0, .bool false, .bool false] := (hb5.block _ (by omega)).trans (show wr.heap[w.heap.size]? = _ from HA.out.2.2.1.hx)
    clear hb5 hq3 hq2 hf3 hf2
    have hq3 := hc5.cell 3
    have hf3 := hc5.froz 3
    have hg5 := hc5.lt
    simp [tagCs] at hq3
    have hrel5 : RInv N kind xs T w ⟨1, false, tn, nm, vl, q, (l0 ++ [(nm, vl)])⟩ (j + 1) (.slice (some ⟨g5, 0, none⟩) (l0.length + 1) cp5) (w5.setCell ⟨w.heap.size + 1, 3, none⟩ (.slice (some ⟨g5, 0, none⟩) (l0.length + 1) cp5)) := by
      refine ⟨by simp, by omega, ?_, ho5.set (by omega) 3 _, ?_, ?_, ?_, ?_, HLQ.out, HTn.out, hw5.setc (by omega) 3 _, (Fz.set (X := (· = w.heap.size + 1)) _ _ _ _ rfl).cells (by omega) hx5⟩
      · have h := hc5.set 3 (.slice (some ⟨g5, 0, none⟩) (l0.length + 1) cp5)
        rw [← HST.out] at h
        exact h
      · have h : l0.length ≤ j := HA.out.2.2.1.l1
        simp
        omega
      · have h : nm.length ≤ j := HA.out.2.2.1.l2
        simp
        try omega
      · have h : vl.length ≤ j := HA.out.2.2.1.l3
        simp
        try omega
      · have h : tn.length ≤ j := HA.out.2.2.1.l4
        show tn.length ≤ j + 1
        omega
    have HR := Lib.hid hrel5
    clear hrel5 ho5 hw5 hc5 hx5
    go_wp2_with fail
    go_roundw
    case rel => exact ⟨_, j + 1, _, rfl, rfl, by rw [← HS.out.1], by rw [← HS.out.2.1], rfl, rfl, HR.out⟩
    case measure => simp [RowKit.intOf]; omega
  by_cases h62 : x = 62
  case pos =>
    subst h62
    have hbx : blkB 62 = false := rfl
    have hCB : ∀ W, Calls Tryz.prog 26 #[.int .u8 62] W fun e w' => e = .returned (.bool false) ∧ w' = W := fun W => CBx.out W
    have hstep : refStep ⟨5, sl, tn, nm, vl, q, l0⟩ 62 = (⟨1, false, tn, nm, vl, q, (l0 ++ [(nm, vl)])⟩, true) := by simp [refStep, blkB]
    have hTT : (⟨kind, j + 1, tn, l0 ++ [(nm, vl)], false, true⟩ : TG) = T := by rw [← HT.out, ref_end hstep, HD.out.1]
    have HTT := Lib.hid hTT
    clear hstep hTT hbx
    have hq3 := HC.out.cell 3
    have hq2 := HC.out.cell 2
    have hf3 := HC.out.froz 3
    have hf2 := HC.out.froz 2
    simp [tagCs] at hq3 hq2
    have hI := HI.out
    have hoR : OwnR wr (w.heap.size + 1 + 1) l0 (.slice Av nv cv) := hI.ho
    have hll : l0.length ≤ 1000000 := by have h1 : l0.length ≤ j := hI.l1; have h2 := HH.out.2.2.2.2.2.2; omega
    have hw0 : wr.alloc (.cells #[strV ((nm, vl) : AT).1, strV ((nm, vl) : AT).2] 96) = wr.alloc (.cells #[.string SN, .string SV] 96) := by
      unfold strV
      dsimp only
      rw [HS.out.1, HS.out.2.1]
    have HA := Lib.hid (And.intro hoR (And.intro hll (And.intro hI hw0)))
    clear hoR hll hI hw0
    go_wp2_with (first
      | (at_builtin; refine wpList_appR rfl (.tmp 156) (.tmp 160) rfl (w.heap.size + 1 + 1) _ l0 ((nm, vl) : AT) rfl wr HA.out.1 HA.out.2.2.2 rfl HA.out.2.1 (by omega) ?_)
      | (go_at_call 26; refine (hCB _).mono ?_; rintro r w1 ⟨rfl, e37⟩; obtain rfl := e37.symm; clear e37)
      | fail)
    intro g5 cp5 w5 ho5 hb5
    have hw5 : Below w.heap.size w w5 := HA.out.2.2.1.hb.trans ⟨hb5.os, hb5.tape, hb5.output, hb5.size, fun k hk => hb5.block k (by omega)⟩
    have hc5 : Cells w5 (w.heap.size + 1) 56 (tagCs kind ST (.slice Av nv cv)) := (hb5.block _ (by omega)).trans (show wr.heap[w.heap.size + 1]? = _ from HC.out)
    have hx5 : Cells w5 w.heap.size 56 #[.int .i64 0, .int .i64 0, .string ⟨#[]⟩, .slice none 0 0, .bool false, .bool false] := (hb5.block _ (by omega)).trans (show wr.heap[w.heap.size]? = _ from HA.out.2.2.1.hx)
    clear hb5 hq3 hq2 hf3 hf2
    have q0 := (hc5).cell 0
    have fr0 := (hc5).froz 0
    have s0 := (hx5).cell 0
    have t0 := (hx5).froz 0
    have q1 := (hc5).cell 1
    have fr1 := (hc5).froz 1
    have s1 := (hx5).cell 1
    have t1 := (hx5).froz 1
    have q2 := (hc5).cell 2
    have fr2 := (hc5).froz 2
    have s2 := (hx5).cell 2
    have t2 := (hx5).froz 2
    have q3 := (hc5).cell 3
    have fr3 := (hc5).froz 3
    have s3 := (hx5).cell 3
    have t3 := (hx5).froz 3
    have q4 := (hc5).cell 4
    have fr4 := (hc5).froz 4
    have s4 := (hx5).cell 4
    have t4 := (hx5).froz 4
    have q5 := (hc5).cell 5
    have fr5 := (hc5).froz 5
    have s5 := (hx5).cell 5
    have t5 := (hx5).froz 5
    simp [tagCs] at q0 q1 q2 q3 q4 q5 s0 s1 s2 s3 s4 s5
    have ho6 := ho5.set (j := w.heap.size + 1) (by omega) 3 (.slice (some ⟨g5, 0, none⟩) (l0.length + 1) cp5)
    have hb6 := hw5.setc (j := w.heap.size + 1) (by omega) 3 (.slice (some ⟨g5, 0, none⟩) (l0.length + 1) cp5)
    have HF := Lib.hid (And.intro ho6 hb6)
    clear ho5 hw5 hc5 hx5 ho6 hb6
    go_wp2_with fail
    refine bodyPost_ret (v := .agg #[.int .i64 (kind : Int), .int .i64 ((j : Int) + 1), .string ST, .slice (some ⟨g5, 0, none⟩) (l0.length + 1) cp5, .bool false, .bool true]) ?_ rfl ?_
    · simp [results, Tryz.results39, go_sem, s0, s1, s2, s3, s4, s5]
    · have h := HH.out.2.2.2.1 _ (.slice (some ⟨g5, 0, none⟩) (l0.length + 1) cp5) _ HTT.out (((((((((HF.out.1.set (j := w.heap.size + 1) (by omega) 1 (.int .i64 ((j : Int) + 1))).set (j := w.heap.size + 1) (by omega) 5 (.bool true)).set (j := w.heap.size + 1) (by omega) 4 (.bool false)).set (j := w.heap.size) (by omega) 0 (.int .i64 (kind : Int))).set (j := w.heap.size) (by omega) 1 (.int .i64 ((j : Int) + 1))).set (j := w.heap.size) (by omega) 2 (.string ST)).set (j := w.heap.size) (by omega) 3 (.slice (some ⟨g5, 0, none⟩) (l0.length + 1) cp5)).set (j := w.heap.size) (by omega) 4 (.bool false)).set (j := w.heap.size) (by omega) 5 (.bool true)) (((((((((HF.out.2.setc (j := w.heap.size + 1) (by omega) 1 (.int .i64 ((j : Int) + 1))).setc (j := w.heap.size + 1) (by omega) 5 (.bool true)).setc (j := w.heap.size + 1) (by omega) 4 (.bool false)).setc (j := w.heap.size) (by omega) 0 (.int .i64 (kind : Int))).setc (j := w.heap.size) (by omega) 1 (.int .i64 ((j : Int) + 1))).setc (j := w.heap.size) (by omega) 2 (.string ST)).setc (j := w.heap.size) (by omega) 3 (.slice (some ⟨g5, 0, none⟩) (l0.length + 1) cp5)).setc (j := w.heap.size) (by omega) 4 (.bool false)).setc (j := w.heap.size) (by omega) 5 (.bool true))
      unfold tagV strV at h
      dsimp only at h
      rw [HST.out] at h
      exact h
  have hBf : blkB x = false := by simpa using hB
  have hCB : ∀ W, Calls Tryz.prog 26 #[.int .u8 (x : Int)] W fun e w' => e = .returned (.bool false) ∧ w' = W := fun W => by have := CBx.out W; rw [hBf] at this; exact this
  have b62 : ((x : Int) == 62) = false := by rw [beq_eq_false_iff_ne]; omega
  have n62 : ((x : Int) != 62) = true := by rw [bne_iff_ne]; omega
  have hstep : refStep ⟨5, sl, tn, nm, vl, q, l0⟩ x = (⟨5, sl, tn, nm, (vl ++ [x]), q, l0⟩, false) := by simp [refStep, hBf, h62]
  have hTn : refGo N kind ⟨5, sl, tn, nm, (vl ++ [x]), q, l0⟩ (xs.drop (j + 1)) = T := by rw [← HT.out, ref_on hstep]
  have HTn := Lib.hid hTn
  clear hstep hTn hBf
  have hq3 := HC.out.cell 3
  have hq2 := HC.out.cell 2
  have hf3 := HC.out.froz 3
  have hf2 := HC.out.froz 2
  simp [tagCs] at hq3 hq2
  have hrel6 : ∀ w6, RInv N kind xs T w ⟨5, sl, tn, nm, vl, q, l0⟩ j (.slice Av nv cv) w6 → RInv N kind xs T w ⟨5, sl, tn, nm, (vl ++ [x]), q, l0⟩ (j + 1) (.slice Av nv cv) w6 := fun w6 h6 => by
    refine ⟨by simp, by omega, h6.hc, h6.ho, ?_, ?_, ?_, ?_, HLQ.out, HTn.out, h6.hb, h6.hx⟩
    · have h : l0.length ≤ j := h6.l1
      show l0.length ≤ j + 1
      omega
    · have h : nm.length ≤ j := h6.l2
      simp
      try omega
    · have h : vl.length ≤ j := h6.l3
      simp
      try omega
    · have h : tn.length ≤ j := h6.l4
      show tn.length ≤ j + 1
      omega
  have HR := Lib.hid hrel6
  clear hrel6
  go_wp2_with (first | (go_at_call 26; refine (hCB _).mono ?_; rintro r w1 ⟨rfl, e37⟩; obtain rfl := e37.symm; clear e37) | fail)
  go_roundw
  case rel => exact ⟨_, j + 1, _, rfl, rfl, by rw [← HS.out.1], by rw [HS.out.2.2.2.2.2.1], rfl, rfl, HR.out _ HI.out⟩
  case measure => simp [RowKit.intOf]; omega
set_option maxHeartbeats 40000000 in
set_option maxRecDepth 100000 in
theorem refTag_s6 : refTag_parts.T6 := by
  intro b o cap n kind xs w T Q N hcap hlen hn HH K0 a0 wr u14 u15 u16 u20 u21 u22 u23 u24 u25 u26 u27 u28 u29 u30 u31 u32 u33 u34 u35 u36 u37 u38 u39 u40 u41 u42 u43 u44 u45 u46 u47 u48 u49 u50 u51 u52 u53 u54 u55 u56 u57 u58 u59 u60 u61 u62 u63 u64 u65 u66 u67 u68 u69 u70 u71 u72 u73 u74 u75 u76 u77 u78 u79 u80 u81 u82 u83 u84 u85 u86 u87 u88 u89 u90 u91 u92 u93 u94 u95 u96 u97 u98 u99 u100 u101 u102 u103 u104 u105 u106 u107 u108 u109 u110 u111 u112 u113 u114 u115 u116 u117 u118 u119 u120 u121 u122 u123 u124 u125 u126 u127 u128 u129 u130 u131 u132 u133 u134 u135 u136 u137 u138 u139 u140 u141 u142 u143 u144 u145 u146 u147 u148 u149 u150 u151 u152 u153 u154 u155 u156 u157 u158 u159 u160 u161 u162 u163 u164 u165 u166 u167 u168 u169 u170 u171 u172 u173 u174 u175 u176 u177 u178 u179 u180 u181 u182 u183 u184 u185 u186 u187 u188 u189 sl tn nm vl q l0 j Av nv cv hj z1 z0 hlt x left0 ST hzt SN hzn SV hzv SX hz1 SL hz2 HS HST HC HCL HD CBx HLQ K1 K2 K3 HT HI Q9 a1 a2 a3
  by_cases hqq : x = q
  case pos =>
    subst hqq
    have bq : ((x : Int) == (x : Int)) = true := by simp
    have hstep : refStep ⟨6, sl, tn, nm, vl, x, l0⟩ x = (⟨1, false, tn, nm, vl, x, (l0 ++ [(nm, vl)])⟩, false) := by simp [refStep]
    have hTn : refGo N kind ⟨1, false, tn, nm, vl, x, (l0 ++ [(nm, vl)])⟩ (xs.drop (j + 1)) = T := by rw [← HT.out, ref_on hstep]
    have HTn := Lib.hid hTn
    clear hstep hTn
    have hq3 := HC.out.cell 3
    have hq2 := HC.out.cell 2
    have hf3 := HC.out.froz 3
    have hf2 := HC.out.froz 2
    simp [tagCs] at hq3 hq2
    have hI := HI.out
    have hoR : OwnR wr (w.heap.size + 1 + 1) l0 (.slice Av nv cv) := hI.ho
    have hll : l0.length ≤ 1000000 := by have h1 : l0.length ≤ j := hI.l1; have h2 := HH.out.2.2.2.2.2.2; omega
    have hw0 : wr.alloc (.cells #[strV ((nm, vl) : AT).1, strV ((nm, vl) : AT).2] 96) = wr.alloc (.cells #[.string SN, .string SV] 96) := by
      unfold strV
      dsimp only
      rw [HS.out.1, HS.out.2.1]
    have HA := Lib.hid (And.intro hoR (And.intro hll (And.intro hI hw0)))
    clear hoR hll hI hw0
    go_wp2_with (first
      | (at_builtin; refine wpList_appR rfl (.tmp 172) (.tmp 176) rfl (w.heap.size + 1 + 1) _ l0 ((nm, vl) : AT) rfl wr HA.out.1 HA.out.2.2.2 rfl HA.out.2.1 (by omega) ?_)
      | fail)
    intro g5 cp5 w5 ho5 hb5
    have hw5 : Below w.heap.size w w5 := HA.out.2.2.1.hb.trans ⟨hb5.os, hb5.tape, hb5.output, hb5.size, fun k hk => hb5.block k (by omega)⟩
    have hc5 : Cells w5 (w.heap.size + 1) 56 (tagCs kind ST (.slice Av nv cv)) := (hb5.block _ (by omega)).trans (show wr.heap[w.heap.size + 1]? = _ from HC.out)
    have hx5 : Cells w5 w.heap.size 56 #[.int .i64 0, .int .i64 0, .string ⟨#[]⟩, .slice none 0 0, .bool false, .bool false] := (hb5.block _ (by omega)).trans (show wr.heap[w.heap.size]? = _ from HA.out.2.2.1.hx)
    clear hb5 hq3 hq2 hf3 hf2
    have hq3 := hc5.cell 3
    have hf3 := hc5.froz 3
    have hg5 := hc5.lt
    simp [tagCs] at hq3
    have hrel5 : RInv N kind xs T w ⟨1, false, tn, nm, vl, x, (l0 ++ [(nm, vl)])⟩ (j + 1) (.slice (some ⟨g5, 0, none⟩) (l0.length + 1) cp5) (w5.setCell ⟨w.heap.size + 1, 3, none⟩ (.slice (some ⟨g5, 0, none⟩) (l0.length + 1) cp5)) := by
      refine ⟨by simp, by omega, ?_, ho5.set (by omega) 3 _, ?_, ?_, ?_, ?_, HLQ.out, HTn.out, hw5.setc (by omega) 3 _, (Fz.set (X := (· = w.heap.size + 1)) _ _ _ _ rfl).cells (by omega) hx5⟩
      · have h := hc5.set 3 (.slice (some ⟨g5, 0, none⟩) (l0.length + 1) cp5)
        rw [← HST.out] at h
        exact h
      · have h : l0.length ≤ j := HA.out.2.2.1.l1
        simp
        omega
      · have h : nm.length ≤ j := HA.out.2.2.1.l2
        simp
        try omega
      · have h : vl.length ≤ j := HA.out.2.2.1.l3
        simp
        try omega
      · have h : tn.length ≤ j := HA.out.2.2.1.l4
        show tn.length ≤ j + 1
        omega
    have HR := Lib.hid hrel5
    clear hrel5 ho5 hw5 hc5 hx5
    go_wp2_with fail
    go_roundw
    case rel => exact ⟨_, j + 1, _, rfl, rfl, by rw [← HS.out.1], by rw [← HS.out.2.1], rfl, rfl, HR.out⟩
    case measure => simp [RowKit.intOf]; omega
  have bq : ((x : Int) == (q : Int)) = false := by rw [beq_eq_false_iff_ne]; omega
  have hstep : refStep ⟨6, sl, tn, nm, vl, q, l0⟩ x = (⟨6, sl, tn, nm, (vl ++ [x]), q, l0⟩, false) := by simp [refStep, hqq]
  have hTn : refGo N kind ⟨6, sl, tn, nm, (vl ++ [x]), q, l0⟩ (xs.drop (j + 1)) = T := by rw [← HT.out, ref_on hstep]
  have HTn := Lib.hid hTn
  clear hstep hTn
  have hq3 := HC.out.cell 3
  have hq2 := HC.out.cell 2
  have hf3 := HC.out.froz 3
  have hf2 := HC.out.froz 2
  simp [tagCs] at hq3 hq2
  have hrel6 : ∀ w6, RInv N kind xs T w ⟨6, sl, tn, nm, vl, q, l0⟩ j (.slice Av nv cv) w6 → RInv N kind xs T w ⟨6, sl, tn, nm, (vl ++ [x]), q, l0⟩ (j + 1) (.slice Av nv cv) w6 := fun w6 h6 => by
    refine ⟨by simp, by omega, h6.hc, h6.ho, ?_, ?_, ?_, ?_, HLQ.out, HTn.out, h6.hb, h6.hx⟩
    · have h : l0.length ≤ j := h6.l1
      show l0.length ≤ j + 1
      omega
    · have h : nm.length ≤ j := h6.l2
      simp
      try omega
    · have h : vl.length ≤ j := h6.l3
      simp
      try omega
    · have h : tn.length ≤ j := h6.l4
      show tn.length ≤ j + 1
      omega
  have HR := Lib.hid hrel6
  clear hrel6
  go_wp2_with (fail)
  go_roundw
  case rel => exact ⟨_, j + 1, _, rfl, rfl, by rw [← HS.out.1], by rw [HS.out.2.2.2.2.2.1], rfl, rfl, HR.out _ HI.out⟩
  case measure => simp [RowKit.intOf]; omega
theorem refTag_any (b o cap n kind : Nat) (xs : List Nat) (w : World) (hb : BY w w.heap.size xs (some ⟨b, o, none⟩) cap) (hn : n ≤ xs.length) (hl : xs.length ≤ 100000) :
    Calls Tryz.prog 39 #[.slice (some ⟨b, o, none⟩) xs.length cap, .int .i64 (n : Int), .int .i64 (kind : Int)] w (RTOk w (refGo xs.length kind rs0 (xs.drop n))) :=
  refTag_parts.f ⟨refTag_s0⟩ ⟨refTag_s1⟩ ⟨refTag_s2⟩ ⟨refTag_s3⟩ ⟨refTag_s4⟩ ⟨refTag_s5⟩ ⟨refTag_s6⟩ b o cap n kind xs w hb hn hl
end Go.Proofs.YtnedjafpjbfncaaGreatDoor.G

namespace Go.Proofs.YtnedjafpjbfncaaGreatDoor.G
open Go.RowKit Go.Shelf Go.Lib Go.Maps Go.Sort

def RRdOk (w : World) (O : Option TG) (e : Ending) (w' : World) : Prop := ∃ v, e = .returned (.tuple #[tagV (O.getD tg0) v, .bool O.isSome]) ∧ OwnR w' w.heap.size (O.getD tg0).attrs v ∧ Below w.heap.size w w'
theorem rrdOk_none (w w' : World) (h : Below w.heap.size w w') : RRdOk w none (.returned (.tuple #[.agg #[.int .i64 0, .int .i64 0, .string ⟨#[]⟩, .slice none 0 0, .bool false, .bool false], .bool false])) w' := ⟨_, rfl, ownR_nil _ _, h⟩
theorem rrdOk_up {w : World} {O : Option TG} {T : TG} (hO : O = some T) (hT : T.name = [] ∧ T.attrs = [] ∧ T.single = false) : ∀ w', Below w.heap.size w w' → RRdOk w O (.returned (.tuple #[.agg #[.int .i64 (T.kind : Int), .int .i64 (T.size : Int), .string ⟨#[]⟩, .slice none 0 0, .bool false, .bool T.closed], .bool true])) w' := fun w' h => by
  subst hO
  refine ⟨.slice none 0 0, ?_, ?_, h⟩
  · show _ = Ending.returned (Value.tuple #[tagV T _, .bool true])
    unfold tagV
    rw [hT.1, hT.2.2]
    rfl
  · show OwnR _ _ T.attrs _
    rw [hT.2.1]
    exact ownR_nil _ _
theorem rrdOk_tag {w : World} {O : Option TG} {T : TG} (hO : O = some T) : ∀ v w', OwnR w' w.heap.size T.attrs v → Below w.heap.size w w' → RRdOk w O (.returned (.tuple #[tagV T v, .bool true])) w' := fun v w' h1 h2 => by
  subst hO
  exact ⟨v, rfl, h1, h2⟩
set_option maxHeartbeats 40000000 in
set_option maxRecDepth 100000 in
theorem refRead_any (xs : List Nat) (A : Option Addr) (cap : Nat) (I : Int) (w : World) (h : BY w w.heap.size xs A cap) (hl : xs.length ≤ 100000) :
    Calls Tryz.prog 27 #[.slice A xs.length cap, .int .i64 I] w (RRdOk w (rdAt xs I)) := by
  have hlen := h.len
  have hno : ∀ w', Below w.heap.size w w' → RRdOk w none (.returned (.tuple #[.agg #[.int .i64 0, .int .i64 0, .string ⟨#[]⟩, .slice none 0 0, .bool false, .bool false], .bool false])) w' := rrdOk_none w
  have b1 := below_new w (.cells #[.int .i64 0, .int .i64 0, .string ⟨#[]⟩, .slice none 0 0, .bool false, .bool false] 56)
  have x1 := cells_new w #[.int .i64 0, .int .i64 0, .string ⟨#[]⟩, .slice none 0 0, .bool false, .bool false] 56
  by_cases h0 : I < 0
  · have d0 : decide (I < 0) = true := by simpa using h0
    rw [show rdAt xs I = none by rw [rdAt, if_pos h0]]
    obtain ⟨Q, hQ⟩ : ∃ Q, RRdOk w none = Q := ⟨_, rfl⟩
    rw [hQ] at hno ⊢
    have HH := Lib.hid (And.intro hno b1)
    generalize xs.length = N at *
    clear h hno b1 x1 hQ
    go_enter Tryz.func27, Tryz.ntmps27
    go_wp2_with fail
    refine bodyPost_ret (v := .tuple #[.agg #[.int .i64 0, .int .i64 0, .string ⟨#[]⟩, .slice none 0 0, .bool false, .bool false], .bool false]) ?_ rfl ?_
    · simp [results, Tryz.results27, go_sem]
    · exact HH.out.1 _ HH.out.2
  have d0 : decide (I < 0) = false := by simpa using h0
  obtain ⟨k, rfl⟩ := Int.eq_ofNat_of_zero_le (show 0 ≤ I by omega)
  rw [show rdAt xs (k : Int) = rdT (xs.drop k) by rw [rdAt, if_neg h0, Int.toNat_natCast]]
  clear h0
  by_cases hlt : k < xs.length
  case neg =>
    have d1 : decide ((xs.length : Int) ≤ (k : Int)) = true := by simp; omega
    rw [List.drop_of_length_le (by omega)]
    show Calls Tryz.prog 27 #[.slice A xs.length cap, .int .i64 (k : Int)] w (RRdOk w none)
    obtain ⟨Q, hQ⟩ : ∃ Q, RRdOk w none = Q := ⟨_, rfl⟩
    rw [hQ] at hno ⊢
    have HH := Lib.hid (And.intro hno b1)
    generalize xs.length = N at *
    clear h hno b1 x1 hQ
    go_enter Tryz.func27, Tryz.ntmps27
    go_wp2_with fail
    refine bodyPost_ret (v := .tuple #[.agg #[.int .i64 0, .int .i64 0, .string ⟨#[]⟩, .slice none 0 0, .bool false, .bool false], .bool false]) ?_ rfl ?_
    · simp [results, Tryz.results27, go_sem]
    · exact HH.out.1 _ HH.out.2
  have d1 : decide ((xs.length : Int) ≤ (k : Int)) = false := by simp; omega
  obtain ⟨d, hx⟩ := at_lt (l := xs) (k := k) hlt
  obtain ⟨b, o, rfl, _, c0⟩ := h.at hx
  have hY := h.drop hlt
  have hcap := h.l
  have hmx := h.m
  unfold maxLen at hmx
  have hdl : (xs.drop k).length = xs.length - k := by simp
  have i1 : (k : Int) < (xs.length : Int) := by omega
  by_cases hd : d = 60
  case neg =>
    have dn : ((d : Int) != 60) = true := by rw [bne_iff_ne]; omega
    have hr : rdT (xs.drop k) = none := by
      rw [drop_at hx]
      cases xs.drop (k + 1) with
      | nil => rfl
      | cons c t => simp [rdT, hd]
    rw [hr]
    obtain ⟨Q, hQ⟩ : ∃ Q, RRdOk w none = Q := ⟨_, rfl⟩
    rw [hQ] at hno ⊢
    have HH := Lib.hid (And.intro hno b1)
    generalize xs.length = N at *
    clear h hno b1 x1 hQ hY hdl hd hr hx
    generalize (d : Int) = D at *
    go_enter Tryz.func27, Tryz.ntmps27
    go_wp2_with fail
    refine bodyPost_ret (v := .tuple #[.agg #[.int .i64 0, .int .i64 0, .string ⟨#[]⟩, .slice none 0 0, .bool false, .bool false], .bool false]) ?_ rfl ?_
    · simp [results, Tryz.results27, go_sem]
    · exact HH.out.1 _ HH.out.2
  subst hd
  by_cases hl1 : xs.length - k = 1
  · have hr : rdT (xs.drop k) = none := by
      rw [drop_at hx, List.drop_of_length_le (by omega)]
      rfl
    rw [hr]
    obtain ⟨Q, hQ⟩ : ∃ Q, RRdOk w none = Q := ⟨_, rfl⟩
    rw [hQ] at hno ⊢
    have HH := Lib.hid (And.intro hno b1)
    generalize xs.length = N at *
    have e9 : (((N - k : Nat) : Int) == 1) = true := by rw [hl1]; rfl
    clear h hno b1 x1 hQ hY hdl hr hx
    go_enter Tryz.func27, Tryz.ntmps27
    go_wp2_with fail
    refine bodyPost_ret (v := .tuple #[.agg #[.int .i64 0, .int .i64 0, .string ⟨#[]⟩, .slice none 0 0, .bool false, .bool false], .bool false]) ?_ rfl ?_
    · simp [results, Tryz.results27, go_sem]
    · exact HH.out.1 _ HH.out.2
  obtain ⟨c, hc⟩ := at_lt (l := xs) (k := k + 1) (by omega)
  have hdx : xs.drop k = 60 :: c :: xs.drop (k + 2) := by rw [drop_at hx, drop_at hc]
  obtain ⟨t, ht⟩ : ∃ t, xs.drop (k + 2) = t := ⟨_, rfl⟩
  have htl : t.length = xs.length - (k + 2) := by rw [← ht]; simp
  have c1 : w.cell? ⟨b, o + k + 1, none⟩ = some (.int .u8 (c : Int)) := by
    obtain ⟨b', o', e', _, e1⟩ := hY.at (i := 1) (x := c) (by rw [hdx]; rfl)
    obtain ⟨rfl, rfl⟩ : b = b' ∧ o + k = o' := by simpa using e'
    exact e1
  have c2 : ∀ e : Nat, t[0]? = some e → w.cell? ⟨b, o + k + 2, none⟩ = some (.int .u8 (e : Int)) := fun e he => by
    obtain ⟨b', o', e', _, e1⟩ := hY.at (i := 2) (x := e) (by rw [hdx, ht]; exact he)
    obtain ⟨rfl, rfl⟩ : b = b' ∧ o + k = o' := by simpa using e'
    exact e1
  have h4 : 4 ≤ xs.length - k → ((xs.drop k).take 4).length = 4 := fun h => by rw [List.length_take, hdl]; omega
  have hcv4 : 4 ≤ xs.length - k → ∀ W, Below w.heap.size w W → (convert 22 9 (.slice (some ⟨b, o + k, none⟩) 4 (cap - k))).run Tryz.prog W = .ok (.string ⟨(u8s ((xs.drop k).take 4)).toArray⟩) W := fun h W hb => by
    have hh := conv_by ((hY.on hb).take 4)
    rw [h4 h] at hh
    exact hh
  have h256 : ∀ x ∈ (xs.drop k).take 4, x < 256 := fun x hx => hY.i x (List.mem_of_mem_take hx)
  rw [ht] at hdx
  have hY1 := hY.on b1
  have RT := fun kind n (hn : n ≤ (xs.drop k).length) => refTag_any b (o + k) (cap - k) n kind (xs.drop k) _ hY1 hn (by omega)
  have RC := upToC_any b (o + k) (cap - k) (xs.drop k) _ hY1 (by omega)
  have RD := upToD_any b (o + k) (cap - k) (xs.drop k) _ hY1 (by omega)
  have hz1 : w.heap.size < (w.alloc (.cells #[.int .i64 0, .int .i64 0, .string ⟨#[]⟩, .slice none 0 0, .bool false, .bool false] 56)).heap.size := x1.lt
  have hnn : ∀ w', rdT (xs.drop k) = none → Below w.heap.size w w' → RRdOk w (rdT (xs.drop k)) (.returned (.tuple #[.agg #[.int .i64 0, .int .i64 0, .string ⟨#[]⟩, .slice none 0 0, .bool false, .bool false], .bool false])) w' := fun w' hr h => by
    rw [hr]; exact hno w' h
  have hup : ∀ T : TG, rdT (xs.drop k) = some T → _ := fun T hT => rrdOk_up (w := w) hT
  have htg : ∀ T : TG, rdT (xs.drop k) = some T → _ := fun T hT => rrdOk_tag (w := w) hT
  rw [hdl] at RC RD RT
  have hcw : ∀ W, Calls Tryz.prog 38 #[.int .u8 (c : Int)] W fun e w' => e = .returned (.bool (ltrB c)) ∧ w' = W := fun W => letter_any c W
  have hlw : ∀ e W, Calls Tryz.prog 38 #[.int .u8 ((e : Nat) : Int)] W fun r w' => r = .returned (.bool (ltrB e)) ∧ w' = W := fun e W => letter_any e W
  obtain ⟨Q, hQ⟩ : ∃ Q, RRdOk w (rdT (xs.drop k)) = Q := ⟨_, rfl⟩
  rw [hQ] at hnn hup htg ⊢
  have hNk : (t.length + 2) = xs.length - k := by omega
  clear hQ hno hY hY1
  have d9 : (((xs.length - k : Nat) : Int) == 1) = false := by rw [beq_eq_false_iff_ne]; omega
  have i5 : (1 : Int) < ((xs.length - k : Nat) : Int) := by omega
  by_cases hco : c = 33 ∧ t.take 2 = [45, 45]
  · obtain ⟨rfl, htt⟩ := hco
    have h2l : 2 ≤ t.length := by have := congrArg List.length htt; simp at this; omega
    have hr : rdT (xs.drop k) = some (upGo (xs.length - k) 2 [45, 45, 62] ((xs.drop k).drop 4)) := by
      rw [hdx, ← hNk]
      simp only [rdT, htt, show ltrB 33 = false from rfl, ne_eq, not_true_eq_false, if_false, Bool.false_eq_true, show ¬ (33 = 47) from by decide, false_and, and_self, if_true]
      rfl
    have ht4 : (xs.drop k).take 4 = [60, 33, 45, 45] := by
      rw [hdx]
      show 60 :: 33 :: t.take 2 = _
      rw [htt]
    have hcv := hcv4 (by omega) _ b1
    rw [ht4] at hcv
    have i6 : (4 : Int) ≤ ((xs.length - k : Nat) : Int) := by omega
    obtain ⟨T, hT⟩ : ∃ T, upGo (xs.length - k) 2 [45, 45, 62] ((xs.drop k).drop 4) = T := ⟨_, rfl⟩
    have hTn : T.name = [] ∧ T.attrs = [] ∧ T.single = false := by rw [← hT]; exact upGo_plain _ _ _ _
    have C := RC
    rw [hT] at C
    have hok := hup T (by rw [← hT, hr]) hTn
    have HH := Lib.hid (And.intro C (And.intro hok (And.intro b1 x1)))
    clear C hok hT hr hTn
    clear b1 x1
    clear h RT RC RD hnn hup htg hcv4 h4 h256 hdx ht htl hx hc hNk hdl c2 hl1 hcw hlw
    generalize xs.length = N at *
    go_enter Tryz.func27, Tryz.ntmps27
    go_wp2_with fail
    refine HH.out.1.mono ?_
    rintro r w2 ⟨rfl, hb2⟩
    have x2 : Cells w2 w.heap.size 56 #[.int .i64 0, .int .i64 0, .string ⟨#[]⟩, .slice none 0 0, .bool false, .bool false] := (hb2.block _ hz1).trans HH.out.2.2.2
    have s0 := x2.cell 0
    have s1 := x2.cell 1
    have s2 := x2.cell 2
    have s3 := x2.cell 3
    have s4 := x2.cell 4
    have s5 := x2.cell 5
    have t0 := x2.froz 0
    have t1 := x2.froz 1
    have t2 := x2.froz 2
    have t3 := x2.froz 3
    have t4 := x2.froz 4
    have t5 := x2.froz 5
    simp at s0 s1 s2 s3 s4 s5
    have hb3 : Below w.heap.size w w2 := HH.out.2.2.1.trans (hb2.mono (Nat.le_of_lt hz1))
    have HF := Lib.hid hb3
    clear hb2 hb3 x2
    go_wp2_with fail
    refine bodyPost_ret (v := .tuple #[.agg #[.int .i64 (T.kind : Int), .int .i64 (T.size : Int), .string ⟨#[]⟩, .slice none 0 0, .bool false, .bool T.closed], .bool true]) ?_ rfl ?_
    · simp [results, Tryz.results27, go_sem, s0, s1, s2, s3, s4, s5]
    · exact HH.out.2.1 _ (((((((HF.out.setc (Nat.le_refl _) 0 _).setc (Nat.le_refl _) 1 _).setc (Nat.le_refl _) 2 _).setc (Nat.le_refl _) 3 _).setc (Nat.le_refl _) 4 _).setc (Nat.le_refl _) 5 _))
  have hpre : 4 ≤ xs.length - k → ∀ W, Below w.heap.size w W → ∃ SA : ByteArray, (convert 22 9 (.slice (some ⟨b, o + k, none⟩) 4 (cap - k))).run Tryz.prog W = .ok (.string SA) W ∧ (SA.toList == [60, 33, 45, 45]) = false := fun h W hb => by
    refine ⟨_, hcv4 h W hb, ?_⟩
    rw [beq_eq_false_iff_ne]
    intro e
    have e2 : (⟨(u8s ((xs.drop k).take 4)).toArray⟩ : ByteArray).toList = u8s ((xs.drop k).take 4) := by first | exact ByteArray.toList_mk _ | simp
    rw [e2] at e
    have e3 := u8s_inj h256 (by decide) (show u8s ((xs.drop k).take 4) = u8s [60, 33, 45, 45] from e)
    rw [hdx] at e3
    have e4 : 60 :: c :: t.take 2 = [60, 33, 45, 45] := e3
    injection e4 with _ e5
    injection e5 with e6 e7
    exact hco ⟨e6, e7⟩
  by_cases hlt2 : ltrB c = true
  case pos =>
    have hr : rdT (xs.drop k) = some (refGo (xs.length - k) 0 rs0 ((xs.drop k).drop 1)) := by
      rw [hdx, ← hNk]
      simp [rdT, hlt2]
    have n47 : c ≠ 47 := by rintro rfl; simp [ltrB] at hlt2
    have b47 : ((c : Int) == 47) = false := by rw [beq_eq_false_iff_ne]; omega
    have hcl : ∀ W, Calls Tryz.prog 38 #[.int .u8 (c : Int)] W fun e w' => e = .returned (.bool true) ∧ w' = W := fun W => by have := hcw W; rw [hlt2] at this; exact this
    clear n47 hlt2 hco
    by_cases h4l : 4 ≤ xs.length - k
    · obtain ⟨SA, hcv, hl9⟩ := hpre h4l _ b1
      have i6 : (4 : Int) ≤ ((xs.length - k : Nat) : Int) := by omega
      clear hpre
      have C := RT 0 1 (by omega)
      obtain ⟨T, hT⟩ : ∃ T, refGo (xs.length - k) 0 rs0 ((xs.drop k).drop 1) = T := ⟨_, rfl⟩
      rw [hT] at C
      have hok := htg T (by rw [← hT, hr])
      obtain ⟨NB, hNB⟩ : ∃ S : ByteArray, ⟨(u8s T.name).toArray⟩ = S := ⟨_, rfl⟩
      unfold tagV strV at hok
      rw [hNB] at hok
      have HNB := Lib.hid hNB
      have HH := Lib.hid (And.intro C (And.intro hok (And.intro b1 x1)))
      clear C hok hT hr hNB
      clear b1 x1
      clear h RT RC RD hnn hup htg hcv4 h4 h256 hdx ht htl hx hc hNk hdl c2 hl1 hcw hlw
      generalize xs.length = N at *
      go_enter Tryz.func27, Tryz.ntmps27
      go_wp2_with fail
      refine (hcl _).mono ?_
      rintro r wq ⟨rfl, eq⟩
      obtain rfl := eq.symm
      go_wp2_with fail
      refine HH.out.1.mono ?_
      rintro r w2 ⟨v, rfl, ho, hb2⟩
      obtain ⟨Av, nv, cv, rfl⟩ := ho.slice
      have x2 : Cells w2 w.heap.size 56 #[.int .i64 0, .int .i64 0, .string ⟨#[]⟩, .slice none 0 0, .bool false, .bool false] := (hb2.block _ hz1).trans HH.out.2.2.2
      have s0 := x2.cell 0
      have s1 := x2.cell 1
      have s2 := x2.cell 2
      have s3 := x2.cell 3
      have s4 := x2.cell 4
      have s5 := x2.cell 5
      have t0 := x2.froz 0
      have t1 := x2.froz 1
      have t2 := x2.froz 2
      have t3 := x2.froz 3
      have t4 := x2.froz 4
      have t5 := x2.froz 5
      simp at s0 s1 s2 s3 s4 s5
      have ho2 : OwnR w2 (w.heap.size + 1) T.attrs (.slice Av nv cv) := by
        rw [World.size_alloc] at ho
        exact ho
      have hb3 : Below w.heap.size w w2 := HH.out.2.2.1.trans (hb2.mono (Nat.le_of_lt hz1))
      have HF := Lib.hid (And.intro ho2 hb3)
      clear ho ho2 hb2 hb3 x2
      unfold tagV strV
      rw [HNB.out]
      go_wp2_with fail
      refine bodyPost_ret (v := .tuple #[.agg #[.int .i64 (T.kind : Int), .int .i64 (T.size : Int), .string NB, .slice Av nv cv, .bool T.single, .bool T.closed], .bool true]) ?_ rfl ?_
      · simp [results, Tryz.results27, go_sem, s0, s1, s2, s3, s4, s5]
      · exact HH.out.2.1 _ _ (ownsRow_base (((((((HF.out.1.set (by omega) 0 _).set (by omega) 1 _).set (by omega) 2 _).set (by omega) 3 _).set (by omega) 4 _).set (by omega) 5 _)) (by omega)) (((((((HF.out.2.setc (Nat.le_refl _) 0 _).setc (Nat.le_refl _) 1 _).setc (Nat.le_refl _) 2 _).setc (Nat.le_refl _) 3 _).setc (Nat.le_refl _) 4 _).setc (Nat.le_refl _) 5 _))
    · have i6 : ¬ (4 : Int) ≤ ((xs.length - k : Nat) : Int) := by omega
      clear hpre
      have C := RT 0 1 (by omega)
      obtain ⟨T, hT⟩ : ∃ T, refGo (xs.length - k) 0 rs0 ((xs.drop k).drop 1) = T := ⟨_, rfl⟩
      rw [hT] at C
      have hok := htg T (by rw [← hT, hr])
      obtain ⟨NB, hNB⟩ : ∃ S : ByteArray, ⟨(u8s T.name).toArray⟩ = S := ⟨_, rfl⟩
      unfold tagV strV at hok
      rw [hNB] at hok
      have HNB := Lib.hid hNB
      have HH := Lib.hid (And.intro C (And.intro hok (And.intro b1 x1)))
      clear C hok hT hr hNB
      clear b1 x1
      clear h RT RC RD hnn hup htg hcv4 h4 h256 hdx ht htl hx hc hNk hdl c2 hl1 hcw hlw
      generalize xs.length = N at *
      go_enter Tryz.func27, Tryz.ntmps27
      go_wp2_with fail
      refine (hcl _).mono ?_
      rintro r wq ⟨rfl, eq⟩
      obtain rfl := eq.symm
      go_wp2_with fail
      refine HH.out.1.mono ?_
      rintro r w2 ⟨v, rfl, ho, hb2⟩
      obtain ⟨Av, nv, cv, rfl⟩ := ho.slice
      have x2 : Cells w2 w.heap.size 56 #[.int .i64 0, .int .i64 0, .string ⟨#[]⟩, .slice none 0 0, .bool false, .bool false] := (hb2.block _ hz1).trans HH.out.2.2.2
      have s0 := x2.cell 0
      have s1 := x2.cell 1
      have s2 := x2.cell 2
      have s3 := x2.cell 3
      have s4 := x2.cell 4
      have s5 := x2.cell 5
      have t0 := x2.froz 0
      have t1 := x2.froz 1
      have t2 := x2.froz 2
      have t3 := x2.froz 3
      have t4 := x2.froz 4
      have t5 := x2.froz 5
      simp at s0 s1 s2 s3 s4 s5
      have ho2 : OwnR w2 (w.heap.size + 1) T.attrs (.slice Av nv cv) := by
        rw [World.size_alloc] at ho
        exact ho
      have hb3 : Below w.heap.size w w2 := HH.out.2.2.1.trans (hb2.mono (Nat.le_of_lt hz1))
      have HF := Lib.hid (And.intro ho2 hb3)
      clear ho ho2 hb2 hb3 x2
      unfold tagV strV
      rw [HNB.out]
      go_wp2_with fail
      refine bodyPost_ret (v := .tuple #[.agg #[.int .i64 (T.kind : Int), .int .i64 (T.size : Int), .string NB, .slice Av nv cv, .bool T.single, .bool T.closed], .bool true]) ?_ rfl ?_
      · simp [results, Tryz.results27, go_sem, s0, s1, s2, s3, s4, s5]
      · exact HH.out.2.1 _ _ (ownsRow_base (((((((HF.out.1.set (by omega) 0 _).set (by omega) 1 _).set (by omega) 2 _).set (by omega) 3 _).set (by omega) 4 _).set (by omega) 5 _)) (by omega)) (((((((HF.out.2.setc (Nat.le_refl _) 0 _).setc (Nat.le_refl _) 1 _).setc (Nat.le_refl _) 2 _).setc (Nat.le_refl _) 3 _).setc (Nat.le_refl _) 4 _).setc (Nat.le_refl _) 5 _))
  have hcf : ltrB c = false := by simpa using hlt2
  have hcl : ∀ W, Calls Tryz.prog 38 #[.int .u8 (c : Int)] W fun e w' => e = .returned (.bool false) ∧ w' = W := fun W => by have := hcw W; rw [hcf] at this; exact this
  by_cases h47 : c = 47
  case pos =>
    subst h47
    cases t with
    | nil =>
      have hr : rdT (xs.drop k) = some (upGo (xs.length - k) 3 [62] ((xs.drop k).drop 2)) := by
        rw [hdx, ← hNk]
        rfl
      have i6 : ¬ (4 : Int) ≤ ((xs.length - k : Nat) : Int) := by simp at hNk; omega
      have i7 : ¬ (3 : Int) ≤ ((xs.length - k : Nat) : Int) := by simp at hNk; omega
      clear hlt2 hco hpre hcf
      obtain ⟨T, hT⟩ : ∃ T, upGo (xs.length - k) 3 [62] ((xs.drop k).drop 2) = T := ⟨_, rfl⟩
      have hTn : T.name = [] ∧ T.attrs = [] ∧ T.single = false := by rw [← hT]; exact upGo_plain _ _ _ _
      have C := RD
      rw [hT] at C
      have hok := hup T (by rw [← hT, hr]) hTn
      have HH := Lib.hid (And.intro C (And.intro hok (And.intro b1 x1)))
      clear C hok hT hr hTn
      clear b1 x1
      clear h RT RC RD hnn hup htg hcv4 h4 h256 hdx ht htl hx hc hNk hdl c2 hl1 hcw hlw
      generalize xs.length = N at *
      go_enter Tryz.func27, Tryz.ntmps27
      go_wp2_with fail
      refine (hcl _).mono ?_
      rintro r wq ⟨rfl, eq⟩
      obtain rfl := eq.symm
      go_wp2_with fail
      refine HH.out.1.mono ?_
      rintro r w2 ⟨rfl, hb2⟩
      have x2 : Cells w2 w.heap.size 56 #[.int .i64 0, .int .i64 0, .string ⟨#[]⟩, .slice none 0 0, .bool false, .bool false] := (hb2.block _ hz1).trans HH.out.2.2.2
      have s0 := x2.cell 0
      have s1 := x2.cell 1
      have s2 := x2.cell 2
      have s3 := x2.cell 3
      have s4 := x2.cell 4
      have s5 := x2.cell 5
      have t0 := x2.froz 0
      have t1 := x2.froz 1
      have t2 := x2.froz 2
      have t3 := x2.froz 3
      have t4 := x2.froz 4
      have t5 := x2.froz 5
      simp at s0 s1 s2 s3 s4 s5
      have hb3 : Below w.heap.size w w2 := HH.out.2.2.1.trans (hb2.mono (Nat.le_of_lt hz1))
      have HF := Lib.hid hb3
      clear hb2 hb3 x2
      go_wp2_with fail
      refine bodyPost_ret (v := .tuple #[.agg #[.int .i64 (T.kind : Int), .int .i64 (T.size : Int), .string ⟨#[]⟩, .slice none 0 0, .bool false, .bool T.closed], .bool true]) ?_ rfl ?_
      · simp [results, Tryz.results27, go_sem, s0, s1, s2, s3, s4, s5]
      · exact HH.out.2.1 _ (((((((HF.out.setc (Nat.le_refl _) 0 _).setc (Nat.le_refl _) 1 _).setc (Nat.le_refl _) 2 _).setc (Nat.le_refl _) 3 _).setc (Nat.le_refl _) 4 _).setc (Nat.le_refl _) 5 _))
    | cons e u =>
      have c2 := c2 e rfl
      have i7 : (3 : Int) ≤ ((xs.length - k : Nat) : Int) := by simp at hNk; omega
      have i8 : (2 : Int) < ((xs.length - k : Nat) : Int) := by simp at hNk; omega
      by_cases he : ltrB e = true
      case pos =>
        have hr : rdT (xs.drop k) = some (refGo (xs.length - k) 1 rs0 ((xs.drop k).drop 2)) := by
          rw [hdx, ← hNk]
          simp [rdT, hcf, he]
        have hel : ∀ W, Calls Tryz.prog 38 #[.int .u8 (e : Int)] W fun r w' => r = .returned (.bool true) ∧ w' = W := fun W => by have := hlw e W; rw [he] at this; exact this
        clear he hlt2 hco hcf
        by_cases h4l : 4 ≤ xs.length - k
        · obtain ⟨SA, hcv, hl9⟩ := hpre h4l _ b1
          have i6 : (4 : Int) ≤ ((xs.length - k : Nat) : Int) := by omega
          clear hpre
          have C := RT 1 2 (by omega)
          obtain ⟨T, hT⟩ : ∃ T, refGo (xs.length - k) 1 rs0 ((xs.drop k).drop 2) = T := ⟨_, rfl⟩
          rw [hT] at C
          have hok := htg T (by rw [← hT, hr])
          obtain ⟨NB, hNB⟩ : ∃ S : ByteArray, ⟨(u8s T.name).toArray⟩ = S := ⟨_, rfl⟩
          unfold tagV strV at hok
          rw [hNB] at hok
          have HNB := Lib.hid hNB
          have HH := Lib.hid (And.intro C (And.intro hok (And.intro b1 x1)))
          clear C hok hT hr hNB
          clear b1 x1
          clear h RT RC RD hnn hup htg hcv4 h4 h256 hdx ht htl hx hc hNk hdl hl1 hcw hlw
          generalize xs.length = N at *
          go_enter Tryz.func27, Tryz.ntmps27
          go_wp2_with fail
          refine (hel _).mono ?_
          rintro r wq ⟨rfl, eq⟩
          obtain rfl := eq.symm
          go_wp2_with fail
          refine HH.out.1.mono ?_
          rintro r w2 ⟨v, rfl, ho, hb2⟩
          obtain ⟨Av, nv, cv, rfl⟩ := ho.slice
          have x2 : Cells w2 w.heap.size 56 #[.int .i64 0, .int .i64 0, .string ⟨#[]⟩, .slice none 0 0, .bool false, .bool false] := (hb2.block _ hz1).trans HH.out.2.2.2
          have s0 := x2.cell 0
          have s1 := x2.cell 1
          have s2 := x2.cell 2
          have s3 := x2.cell 3
          have s4 := x2.cell 4
          have s5 := x2.cell 5
          have t0 := x2.froz 0
          have t1 := x2.froz 1
          have t2 := x2.froz 2
          have t3 := x2.froz 3
          have t4 := x2.froz 4
          have t5 := x2.froz 5
          simp at s0 s1 s2 s3 s4 s5
          have ho2 : OwnR w2 (w.heap.size + 1) T.attrs (.slice Av nv cv) := by
            rw [World.size_alloc] at ho
            exact ho
          have hb3 : Below w.heap.size w w2 := HH.out.2.2.1.trans (hb2.mono (Nat.le_of_lt hz1))
          have HF := Lib.hid (And.intro ho2 hb3)
          clear ho ho2 hb2 hb3 x2
          unfold tagV strV
          rw [HNB.out]
          go_wp2_with fail
          refine bodyPost_ret (v := .tuple #[.agg #[.int .i64 (T.kind : Int), .int .i64 (T.size : Int), .string NB, .slice Av nv cv, .bool T.single, .bool T.closed], .bool true]) ?_ rfl ?_
          · simp [results, Tryz.results27, go_sem, s0, s1, s2, s3, s4, s5]
          · exact HH.out.2.1 _ _ (ownsRow_base (((((((HF.out.1.set (by omega) 0 _).set (by omega) 1 _).set (by omega) 2 _).set (by omega) 3 _).set (by omega) 4 _).set (by omega) 5 _)) (by omega)) (((((((HF.out.2.setc (Nat.le_refl _) 0 _).setc (Nat.le_refl _) 1 _).setc (Nat.le_refl _) 2 _).setc (Nat.le_refl _) 3 _).setc (Nat.le_refl _) 4 _).setc (Nat.le_refl _) 5 _))
        · have i6 : ¬ (4 : Int) ≤ ((xs.length - k : Nat) : Int) := by omega
          clear hpre
          have C := RT 1 2 (by omega)
          obtain ⟨T, hT⟩ : ∃ T, refGo (xs.length - k) 1 rs0 ((xs.drop k).drop 2) = T := ⟨_, rfl⟩
          rw [hT] at C
          have hok := htg T (by rw [← hT, hr])
          obtain ⟨NB, hNB⟩ : ∃ S : ByteArray, ⟨(u8s T.name).toArray⟩ = S := ⟨_, rfl⟩
          unfold tagV strV at hok
          rw [hNB] at hok
          have HNB := Lib.hid hNB
          have HH := Lib.hid (And.intro C (And.intro hok (And.intro b1 x1)))
          clear C hok hT hr hNB
          clear b1 x1
          clear h RT RC RD hnn hup htg hcv4 h4 h256 hdx ht htl hx hc hNk hdl hl1 hcw hlw
          generalize xs.length = N at *
          go_enter Tryz.func27, Tryz.ntmps27
          go_wp2_with fail
          refine (hel _).mono ?_
          rintro r wq ⟨rfl, eq⟩
          obtain rfl := eq.symm
          go_wp2_with fail
          refine HH.out.1.mono ?_
          rintro r w2 ⟨v, rfl, ho, hb2⟩
          obtain ⟨Av, nv, cv, rfl⟩ := ho.slice
          have x2 : Cells w2 w.heap.size 56 #[.int .i64 0, .int .i64 0, .string ⟨#[]⟩, .slice none 0 0, .bool false, .bool false] := (hb2.block _ hz1).trans HH.out.2.2.2
          have s0 := x2.cell 0
          have s1 := x2.cell 1
          have s2 := x2.cell 2
          have s3 := x2.cell 3
          have s4 := x2.cell 4
          have s5 := x2.cell 5
          have t0 := x2.froz 0
          have t1 := x2.froz 1
          have t2 := x2.froz 2
          have t3 := x2.froz 3
          have t4 := x2.froz 4
          have t5 := x2.froz 5
          simp at s0 s1 s2 s3 s4 s5
          have ho2 : OwnR w2 (w.heap.size + 1) T.attrs (.slice Av nv cv) := by
            rw [World.size_alloc] at ho
            exact ho
          have hb3 : Below w.heap.size w w2 := HH.out.2.2.1.trans (hb2.mono (Nat.le_of_lt hz1))
          have HF := Lib.hid (And.intro ho2 hb3)
          clear ho ho2 hb2 hb3 x2
          unfold tagV strV
          rw [HNB.out]
          go_wp2_with fail
          refine bodyPost_ret (v := .tuple #[.agg #[.int .i64 (T.kind : Int), .int .i64 (T.size : Int), .string NB, .slice Av nv cv, .bool T.single, .bool T.closed], .bool true]) ?_ rfl ?_
          · simp [results, Tryz.results27, go_sem, s0, s1, s2, s3, s4, s5]
          · exact HH.out.2.1 _ _ (ownsRow_base (((((((HF.out.1.set (by omega) 0 _).set (by omega) 1 _).set (by omega) 2 _).set (by omega) 3 _).set (by omega) 4 _).set (by omega) 5 _)) (by omega)) (((((((HF.out.2.setc (Nat.le_refl _) 0 _).setc (Nat.le_refl _) 1 _).setc (Nat.le_refl _) 2 _).setc (Nat.le_refl _) 3 _).setc (Nat.le_refl _) 4 _).setc (Nat.le_refl _) 5 _))
      case neg =>
        have hef : ltrB e = false := by simpa using he
        have hr : rdT (xs.drop k) = some (upGo (xs.length - k) 3 [62] ((xs.drop k).drop 2)) := by
          rw [hdx, ← hNk]
          simp [rdT, hcf, hef]
        have hel : ∀ W, Calls Tryz.prog 38 #[.int .u8 (e : Int)] W fun r w' => r = .returned (.bool false) ∧ w' = W := fun W => by have := hlw e W; rw [hef] at this; exact this
        clear he hlt2 hco hcf hef
        by_cases h4l : 4 ≤ xs.length - k
        · obtain ⟨SA, hcv, hl9⟩ := hpre h4l _ b1
          have i6 : (4 : Int) ≤ ((xs.length - k : Nat) : Int) := by omega
          clear hpre
          obtain ⟨T, hT⟩ : ∃ T, upGo (xs.length - k) 3 [62] ((xs.drop k).drop 2) = T := ⟨_, rfl⟩
          have hTn : T.name = [] ∧ T.attrs = [] ∧ T.single = false := by rw [← hT]; exact upGo_plain _ _ _ _
          have C := RD
          rw [hT] at C
          have hok := hup T (by rw [← hT, hr]) hTn
          have HH := Lib.hid (And.intro C (And.intro hok (And.intro b1 x1)))
          clear C hok hT hr hTn
          clear b1 x1
          clear h RT RC RD hnn hup htg hcv4 h4 h256 hdx ht htl hx hc hNk hdl hl1 hcw hlw
          generalize xs.length = N at *
          go_enter Tryz.func27, Tryz.ntmps27
          go_wp2_with fail
          refine (hel _).mono ?_
          rintro r wq ⟨rfl, eq⟩
          obtain rfl := eq.symm
          go_wp2_with fail
          refine (hcl _).mono ?_
          rintro r wq ⟨rfl, eq⟩
          obtain rfl := eq.symm
          go_wp2_with fail
          refine HH.out.1.mono ?_
          rintro r w2 ⟨rfl, hb2⟩
          have x2 : Cells w2 w.heap.size 56 #[.int .i64 0, .int .i64 0, .string ⟨#[]⟩, .slice none 0 0, .bool false, .bool false] := (hb2.block _ hz1).trans HH.out.2.2.2
          have s0 := x2.cell 0
          have s1 := x2.cell 1
          have s2 := x2.cell 2
          have s3 := x2.cell 3
          have s4 := x2.cell 4
          have s5 := x2.cell 5
          have t0 := x2.froz 0
          have t1 := x2.froz 1
          have t2 := x2.froz 2
          have t3 := x2.froz 3
          have t4 := x2.froz 4
          have t5 := x2.froz 5
          simp at s0 s1 s2 s3 s4 s5
          have hb3 : Below w.heap.size w w2 := HH.out.2.2.1.trans (hb2.mono (Nat.le_of_lt hz1))
          have HF := Lib.hid hb3
          clear hb2 hb3 x2
          go_wp2_with fail
          refine bodyPost_ret (v := .tuple #[.agg #[.int .i64 (T.kind : Int), .int .i64 (T.size : Int), .string ⟨#[]⟩, .slice none 0 0, .bool false, .bool T.closed], .bool true]) ?_ rfl ?_
          · simp [results, Tryz.results27, go_sem, s0, s1, s2, s3, s4, s5]
          · exact HH.out.2.1 _ (((((((HF.out.setc (Nat.le_refl _) 0 _).setc (Nat.le_refl _) 1 _).setc (Nat.le_refl _) 2 _).setc (Nat.le_refl _) 3 _).setc (Nat.le_refl _) 4 _).setc (Nat.le_refl _) 5 _))
        · have i6 : ¬ (4 : Int) ≤ ((xs.length - k : Nat) : Int) := by omega
          clear hpre
          obtain ⟨T, hT⟩ : ∃ T, upGo (xs.length - k) 3 [62] ((xs.drop k).drop 2) = T := ⟨_, rfl⟩
          have hTn : T.name = [] ∧ T.attrs = [] ∧ T.single = false := by rw [← hT]; exact upGo_plain _ _ _ _
          have C := RD
          rw [hT] at C
          have hok := hup T (by rw [← hT, hr]) hTn
          have HH := Lib.hid (And.intro C (And.intro hok (And.intro b1 x1)))
          clear C hok hT hr hTn
          clear b1 x1
          clear h RT RC RD hnn hup htg hcv4 h4 h256 hdx ht htl hx hc hNk hdl hl1 hcw hlw
          generalize xs.length = N at *
          go_enter Tryz.func27, Tryz.ntmps27
          go_wp2_with fail
          refine (hel _).mono ?_
          rintro r wq ⟨rfl, eq⟩
          obtain rfl := eq.symm
          go_wp2_with fail
          refine (hcl _).mono ?_
          rintro r wq ⟨rfl, eq⟩
          obtain rfl := eq.symm
          go_wp2_with fail
          refine HH.out.1.mono ?_
          rintro r w2 ⟨rfl, hb2⟩
          have x2 : Cells w2 w.heap.size 56 #[.int .i64 0, .int .i64 0, .string ⟨#[]⟩, .slice none 0 0, .bool false, .bool false] := (hb2.block _ hz1).trans HH.out.2.2.2
          have s0 := x2.cell 0
          have s1 := x2.cell 1
          have s2 := x2.cell 2
          have s3 := x2.cell 3
          have s4 := x2.cell 4
          have s5 := x2.cell 5
          have t0 := x2.froz 0
          have t1 := x2.froz 1
          have t2 := x2.froz 2
          have t3 := x2.froz 3
          have t4 := x2.froz 4
          have t5 := x2.froz 5
          simp at s0 s1 s2 s3 s4 s5
          have hb3 : Below w.heap.size w w2 := HH.out.2.2.1.trans (hb2.mono (Nat.le_of_lt hz1))
          have HF := Lib.hid hb3
          clear hb2 hb3 x2
          go_wp2_with fail
          refine bodyPost_ret (v := .tuple #[.agg #[.int .i64 (T.kind : Int), .int .i64 (T.size : Int), .string ⟨#[]⟩, .slice none 0 0, .bool false, .bool T.closed], .bool true]) ?_ rfl ?_
          · simp [results, Tryz.results27, go_sem, s0, s1, s2, s3, s4, s5]
          · exact HH.out.2.1 _ (((((((HF.out.setc (Nat.le_refl _) 0 _).setc (Nat.le_refl _) 1 _).setc (Nat.le_refl _) 2 _).setc (Nat.le_refl _) 3 _).setc (Nat.le_refl _) 4 _).setc (Nat.le_refl _) 5 _))
  have b47 : ((c : Int) == 47) = false := by rw [beq_eq_false_iff_ne]; omega
  by_cases h33 : c = 33 ∨ c = 63
  case pos =>
    have hr : rdT (xs.drop k) = some (upGo (xs.length - k) 3 [62] ((xs.drop k).drop 2)) := by
      rw [hdx, ← hNk]
      have h1 : ¬ (c = 47 ∧ (t.head?.map ltrB) = some true) := fun h => h47 h.1
      have h2 : c = 33 ∨ c = 63 ∨ c = 47 := by omega
      simp only [rdT, hcf, if_neg h1, if_neg hco, if_pos h2, ne_eq, not_true_eq_false, if_false, Bool.false_eq_true]
      rfl
    clear hco hcf hlt2
    rcases h33 with rfl | rfl
    · clear h47 b47
      by_cases h4l : 4 ≤ xs.length - k
      · obtain ⟨SA, hcv, hl9⟩ := hpre h4l _ b1
        have i6 : (4 : Int) ≤ ((xs.length - k : Nat) : Int) := by omega
        clear hpre
        obtain ⟨T, hT⟩ : ∃ T, upGo (xs.length - k) 3 [62] ((xs.drop k).drop 2) = T := ⟨_, rfl⟩
        have hTn : T.name = [] ∧ T.attrs = [] ∧ T.single = false := by rw [← hT]; exact upGo_plain _ _ _ _
        have C := RD
        rw [hT] at C
        have hok := hup T (by rw [← hT, hr]) hTn
        have HH := Lib.hid (And.intro C (And.intro hok (And.intro b1 x1)))
        clear C hok hT hr hTn
        clear b1 x1
        clear h RT RC RD hnn hup htg hcv4 h4 h256 hdx ht htl hx hc hNk hdl c2 hl1 hcw hlw
        generalize xs.length = N at *
        go_enter Tryz.func27, Tryz.ntmps27
        go_wp2_with fail
        refine (hcl _).mono ?_
        rintro r wq ⟨rfl, eq⟩
        obtain rfl := eq.symm
        go_wp2_with fail
        refine HH.out.1.mono ?_
        rintro r w2 ⟨rfl, hb2⟩
        have x2 : Cells w2 w.heap.size 56 #[.int .i64 0, .int .i64 0, .string ⟨#[]⟩, .slice none 0 0, .bool false, .bool false] := (hb2.block _ hz1).trans HH.out.2.2.2
        have s0 := x2.cell 0
        have s1 := x2.cell 1
        have s2 := x2.cell 2
        have s3 := x2.cell 3
        have s4 := x2.cell 4
        have s5 := x2.cell 5
        have t0 := x2.froz 0
        have t1 := x2.froz 1
        have t2 := x2.froz 2
        have t3 := x2.froz 3
        have t4 := x2.froz 4
        have t5 := x2.froz 5
        simp at s0 s1 s2 s3 s4 s5
        have hb3 : Below w.heap.size w w2 := HH.out.2.2.1.trans (hb2.mono (Nat.le_of_lt hz1))
        have HF := Lib.hid hb3
        clear hb2 hb3 x2
        go_wp2_with fail
        refine bodyPost_ret (v := .tuple #[.agg #[.int .i64 (T.kind : Int), .int .i64 (T.size : Int), .string ⟨#[]⟩, .slice none 0 0, .bool false, .bool T.closed], .bool true]) ?_ rfl ?_
        · simp [results, Tryz.results27, go_sem, s0, s1, s2, s3, s4, s5]
        · exact HH.out.2.1 _ (((((((HF.out.setc (Nat.le_refl _) 0 _).setc (Nat.le_refl _) 1 _).setc (Nat.le_refl _) 2 _).setc (Nat.le_refl _) 3 _).setc (Nat.le_refl _) 4 _).setc (Nat.le_refl _) 5 _))
      · have i6 : ¬ (4 : Int) ≤ ((xs.length - k : Nat) : Int) := by omega
        clear hpre
        obtain ⟨T, hT⟩ : ∃ T, upGo (xs.length - k) 3 [62] ((xs.drop k).drop 2) = T := ⟨_, rfl⟩
        have hTn : T.name = [] ∧ T.attrs = [] ∧ T.single = false := by rw [← hT]; exact upGo_plain _ _ _ _
        have C := RD
        rw [hT] at C
        have hok := hup T (by rw [← hT, hr]) hTn
        have HH := Lib.hid (And.intro C (And.intro hok (And.intro b1 x1)))
        clear C hok hT hr hTn
        clear b1 x1
        clear h RT RC RD hnn hup htg hcv4 h4 h256 hdx ht htl hx hc hNk hdl c2 hl1 hcw hlw
        generalize xs.length = N at *
        go_enter Tryz.func27, Tryz.ntmps27
        go_wp2_with fail
        refine (hcl _).mono ?_
        rintro r wq ⟨rfl, eq⟩
        obtain rfl := eq.symm
        go_wp2_with fail
        refine HH.out.1.mono ?_
        rintro r w2 ⟨rfl, hb2⟩
        have x2 : Cells w2 w.heap.size 56 #[.int .i64 0, .int .i64 0, .string ⟨#[]⟩, .slice none 0 0, .bool false, .bool false] := (hb2.block _ hz1).trans HH.out.2.2.2
        have s0 := x2.cell 0
        have s1 := x2.cell 1
        have s2 := x2.cell 2
        have s3 := x2.cell 3
        have s4 := x2.cell 4
        have s5 := x2.cell 5
        have t0 := x2.froz 0
        have t1 := x2.froz 1
        have t2 := x2.froz 2
        have t3 := x2.froz 3
        have t4 := x2.froz 4
        have t5 := x2.froz 5
        simp at s0 s1 s2 s3 s4 s5
        have hb3 : Below w.heap.size w w2 := HH.out.2.2.1.trans (hb2.mono (Nat.le_of_lt hz1))
        have HF := Lib.hid hb3
        clear hb2 hb3 x2
        go_wp2_with fail
        refine bodyPost_ret (v := .tuple #[.agg #[.int .i64 (T.kind : Int), .int .i64 (T.size : Int), .string ⟨#[]⟩, .slice none 0 0, .bool false, .bool T.closed], .bool true]) ?_ rfl ?_
        · simp [results, Tryz.results27, go_sem, s0, s1, s2, s3, s4, s5]
        · exact HH.out.2.1 _ (((((((HF.out.setc (Nat.le_refl _) 0 _).setc (Nat.le_refl _) 1 _).setc (Nat.le_refl _) 2 _).setc (Nat.le_refl _) 3 _).setc (Nat.le_refl _) 4 _).setc (Nat.le_refl _) 5 _))
    · clear h47 b47
      by_cases h4l : 4 ≤ xs.length - k
      · obtain ⟨SA, hcv, hl9⟩ := hpre h4l _ b1
        have i6 : (4 : Int) ≤ ((xs.length - k : Nat) : Int) := by omega
        clear hpre
        obtain ⟨T, hT⟩ : ∃ T, upGo (xs.length - k) 3 [62] ((xs.drop k).drop 2) = T := ⟨_, rfl⟩
        have hTn : T.name = [] ∧ T.attrs = [] ∧ T.single = false := by rw [← hT]; exact upGo_plain _ _ _ _
        have C := RD
        rw [hT] at C
        have hok := hup T (by rw [← hT, hr]) hTn
        have HH := Lib.hid (And.intro C (And.intro hok (And.intro b1 x1)))
        clear C hok hT hr hTn
        clear b1 x1
        clear h RT RC RD hnn hup htg hcv4 h4 h256 hdx ht htl hx hc hNk hdl c2 hl1 hcw hlw
        generalize xs.length = N at *
        go_enter Tryz.func27, Tryz.ntmps27
        go_wp2_with fail
        refine (hcl _).mono ?_
        rintro r wq ⟨rfl, eq⟩
        obtain rfl := eq.symm
        go_wp2_with fail
        refine HH.out.1.mono ?_
        rintro r w2 ⟨rfl, hb2⟩
        have x2 : Cells w2 w.heap.size 56 #[.int .i64 0, .int .i64 0, .string ⟨#[]⟩, .slice none 0 0, .bool false, .bool false] := (hb2.block _ hz1).trans HH.out.2.2.2
        have s0 := x2.cell 0
        have s1 := x2.cell 1
        have s2 := x2.cell 2
        have s3 := x2.cell 3
        have s4 := x2.cell 4
        have s5 := x2.cell 5
        have t0 := x2.froz 0
        have t1 := x2.froz 1
        have t2 := x2.froz 2
        have t3 := x2.froz 3
        have t4 := x2.froz 4
        have t5 := x2.froz 5
        simp at s0 s1 s2 s3 s4 s5
        have hb3 : Below w.heap.size w w2 := HH.out.2.2.1.trans (hb2.mono (Nat.le_of_lt hz1))
        have HF := Lib.hid hb3
        clear hb2 hb3 x2
        go_wp2_with fail
        refine bodyPost_ret (v := .tuple #[.agg #[.int .i64 (T.kind : Int), .int .i64 (T.size : Int), .string ⟨#[]⟩, .slice none 0 0, .bool false, .bool T.closed], .bool true]) ?_ rfl ?_
        · simp [results, Tryz.results27, go_sem, s0, s1, s2, s3, s4, s5]
        · exact HH.out.2.1 _ (((((((HF.out.setc (Nat.le_refl _) 0 _).setc (Nat.le_refl _) 1 _).setc (Nat.le_refl _) 2 _).setc (Nat.le_refl _) 3 _).setc (Nat.le_refl _) 4 _).setc (Nat.le_refl _) 5 _))
      · have i6 : ¬ (4 : Int) ≤ ((xs.length - k : Nat) : Int) := by omega
        clear hpre
        obtain ⟨T, hT⟩ : ∃ T, upGo (xs.length - k) 3 [62] ((xs.drop k).drop 2) = T := ⟨_, rfl⟩
        have hTn : T.name = [] ∧ T.attrs = [] ∧ T.single = false := by rw [← hT]; exact upGo_plain _ _ _ _
        have C := RD
        rw [hT] at C
        have hok := hup T (by rw [← hT, hr]) hTn
        have HH := Lib.hid (And.intro C (And.intro hok (And.intro b1 x1)))
        clear C hok hT hr hTn
        clear b1 x1
        clear h RT RC RD hnn hup htg hcv4 h4 h256 hdx ht htl hx hc hNk hdl c2 hl1 hcw hlw
        generalize xs.length = N at *
        go_enter Tryz.func27, Tryz.ntmps27
        go_wp2_with fail
        refine (hcl _).mono ?_
        rintro r wq ⟨rfl, eq⟩
        obtain rfl := eq.symm
        go_wp2_with fail
        refine HH.out.1.mono ?_
        rintro r w2 ⟨rfl, hb2⟩
        have x2 : Cells w2 w.heap.size 56 #[.int .i64 0, .int .i64 0, .string ⟨#[]⟩, .slice none 0 0, .bool false, .bool false] := (hb2.block _ hz1).trans HH.out.2.2.2
        have s0 := x2.cell 0
        have s1 := x2.cell 1
        have s2 := x2.cell 2
        have s3 := x2.cell 3
        have s4 := x2.cell 4
        have s5 := x2.cell 5
        have t0 := x2.froz 0
        have t1 := x2.froz 1
        have t2 := x2.froz 2
        have t3 := x2.froz 3
        have t4 := x2.froz 4
        have t5 := x2.froz 5
        simp at s0 s1 s2 s3 s4 s5
        have hb3 : Below w.heap.size w w2 := HH.out.2.2.1.trans (hb2.mono (Nat.le_of_lt hz1))
        have HF := Lib.hid hb3
        clear hb2 hb3 x2
        go_wp2_with fail
        refine bodyPost_ret (v := .tuple #[.agg #[.int .i64 (T.kind : Int), .int .i64 (T.size : Int), .string ⟨#[]⟩, .slice none 0 0, .bool false, .bool T.closed], .bool true]) ?_ rfl ?_
        · simp [results, Tryz.results27, go_sem, s0, s1, s2, s3, s4, s5]
        · exact HH.out.2.1 _ (((((((HF.out.setc (Nat.le_refl _) 0 _).setc (Nat.le_refl _) 1 _).setc (Nat.le_refl _) 2 _).setc (Nat.le_refl _) 3 _).setc (Nat.le_refl _) 4 _).setc (Nat.le_refl _) 5 _))
  case neg =>
    have hr : rdT (xs.drop k) = none := by
      rw [hdx]
      have h1 : ¬ (c = 47 ∧ (t.head?.map ltrB) = some true) := fun h => h47 h.1
      have h2 : ¬ (c = 33 ∨ c = 63 ∨ c = 47) := by omega
      simp only [rdT, hcf, if_neg h1, if_neg hco, if_neg h2, ne_eq, not_true_eq_false, if_false, Bool.false_eq_true]
    have b33 : ((c : Int) == 33) = false := by rw [beq_eq_false_iff_ne]; omega
    have b63 : ((c : Int) == 63) = false := by rw [beq_eq_false_iff_ne]; omega
    clear hco hcf hlt2 h47 h33
    by_cases h4l : 4 ≤ xs.length - k
    · obtain ⟨SA, hcv, hl9⟩ := hpre h4l _ b1
      have i6 : (4 : Int) ≤ ((xs.length - k : Nat) : Int) := by omega
      clear hpre
      have hok := fun w' => hnn w' hr
      have HH := Lib.hid (And.intro hok b1)
      clear hok hr
      clear b1 x1
      clear h RT RC RD hnn hup htg hcv4 h4 h256 hdx ht htl hx hc hNk hdl c2 hl1 hcw hlw
      generalize xs.length = N at *
      go_enter Tryz.func27, Tryz.ntmps27
      go_wp2_with fail
      refine (hcl _).mono ?_
      rintro r wq ⟨rfl, eq⟩
      obtain rfl := eq.symm
      go_wp2_with fail
      refine bodyPost_ret (v := .tuple #[.agg #[.int .i64 0, .int .i64 0, .string ⟨#[]⟩, .slice none 0 0, .bool false, .bool false], .bool false]) ?_ rfl ?_
      · simp [results, Tryz.results27, go_sem]
      · exact HH.out.1 _ HH.out.2
    · have i6 : ¬ (4 : Int) ≤ ((xs.length - k : Nat) : Int) := by omega
      clear hpre
      have hok := fun w' => hnn w' hr
      have HH := Lib.hid (And.intro hok b1)
      clear hok hr
      clear b1 x1
      clear h RT RC RD hnn hup htg hcv4 h4 h256 hdx ht htl hx hc hNk hdl c2 hl1 hcw hlw
      generalize xs.length = N at *
      go_enter Tryz.func27, Tryz.ntmps27
      go_wp2_with fail
      refine (hcl _).mono ?_
      rintro r wq ⟨rfl, eq⟩
      obtain rfl := eq.symm
      go_wp2_with fail
      refine bodyPost_ret (v := .tuple #[.agg #[.int .i64 0, .int .i64 0, .string ⟨#[]⟩, .slice none 0 0, .bool false, .bool false], .bool false]) ?_ rfl ?_
      · simp [results, Tryz.results27, go_sem]
      · exact HH.out.1 _ HH.out.2
end Go.Proofs.YtnedjafpjbfncaaGreatDoor.G

namespace Go.Proofs.YtnedjafpjbfncaaGreatDoor
open Go.RowKit Go.Shelf Go.Lib Go.Maps Go.Great
attribute [local irreducible] NR ZNR FR nmE

/-- Is the mark at a place closed? -/
def closT (xs : List Nat) (k : Nat) : Bool := match G.rdT (xs.drop k) with
  | some T => T.closed
  | none => false
def refC (x : TK) (cl : Bool) : Array Value := #[.int .i64 (x.kind : Int), .int .i64 (x.fr : Int), .int .i64 (x.to : Int), .string ⟨(G.u8s x.name).toArray⟩, .int .i32 x.r, .bool x.sg, .bool cl]
set_option maxHeartbeats 8000000 in
set_option maxRecDepth 100000 in
theorem begins_any (xs : List Nat) (A : Option Addr) (cap : Nat) (k : Nat) (w : World) (hx : BY w w.heap.size xs A cap) (hl : xs.length ≤ 1000) (hk : k < xs.length) :
    Calls Tryz.prog 19 #[.slice A xs.length cap, .int .i64 (k : Int)] w fun e w' => e = .returned (.agg (refC ((markT xs k).getD tkZ) (closT xs k))) ∧ Below w.heap.size w w' := by
  have b1 := below_new w (.cells #[.int .i64 0, .int .i64 0, .int .i64 0, .string ⟨#[]⟩, .int .i32 0, .bool false, .bool false] 33)
  obtain ⟨W1, hW1⟩ : ∃ W, w.alloc (.cells #[.int .i64 0, .int .i64 0, .int .i64 0, .string ⟨#[]⟩, .int .i32 0, .bool false, .bool false] 33) = W := ⟨_, rfl⟩
  have x1 : Cells W1 w.heap.size 33 #[.int .i64 0, .int .i64 0, .int .i64 0, .string ⟨#[]⟩, .int .i32 0, .bool false, .bool false] := by rw [← hW1]; exact cells_new _ _ _
  rw [hW1] at b1
  have C1 := G.refRead_any xs A cap (k : Int) W1 ((hx.on b1).g) (by omega)
  have hrd : G.rdAt xs (k : Int) = G.rdT (xs.drop k) := by unfold G.rdAt; rw [if_neg (by omega), Int.toNat_natCast]
  rw [hrd] at C1
  have hle := readE_le xs k (by omega)
  have hrt := (readT_size (xs.drop k)).1
  have h256 : ∀ x ∈ xs, x < 256 := hx.i
  have hsame := read_same xs h256 k hk
  obtain ⟨O, hO⟩ : ∃ o, G.rdT (xs.drop k) = o := ⟨_, rfl⟩
  obtain ⟨MT, hMT⟩ : ∃ o, markT xs k = o := ⟨_, rfl⟩
  obtain ⟨CL, hCL⟩ : ∃ o, closT xs k = o := ⟨_, rfl⟩
  rw [hO] at C1
  rw [hMT, hCL]
  unfold closT at hCL
  rw [hO] at hCL
  have C2 := fun W (hb : Below w.heap.size w W) => refReadE_any W xs A cap (hx.on hb) hl k hk
  have C3 := fun W (hb : Below w.heap.size w W) => refRead_any xs A cap (k : Int) W (hx.on hb)
  have hra : readAt xs (k : Int) = readT (xs.drop k) := by unfold readAt; rw [if_neg (by omega), Int.toNat_natCast]
  rw [← hsame] at C2
  rw [hra] at C3
  obtain ⟨N, hN⟩ : ∃ N, xs.length = N := ⟨_, rfl⟩
  rw [List.length_drop, hN] at hrt
  rw [hN] at C1 C2 C3 hl hk hle ⊢
  have hmk := fun x => mark_to (xs := xs) (x := x) (k := k) (by omega)
  have hN1 := hN
  have HH := Lib.hid (And.intro C1 (And.intro b1 (And.intro x1 (And.intro hO (And.intro hMT (And.intro hN1 hmk))))))
  have HC := Lib.hid (And.intro C2 C3)
  clear C1 C2 C3 b1 x1 hO hMT hmk hrd hra hsame h256 hx hN1 hN
  go_enter Tryz.func19, Tryz.ntmps19
  go_wp2_with fail
  refine HH.out.1.mono ?_
  rintro e w2 ⟨v, rfl, hown, hb2⟩
  obtain ⟨A9, n9, c9, rfl⟩ : ∃ A n c, v = .slice A n c := by
    rcases hown.2 with ⟨h1, _⟩ | ⟨g, cp, cur, h1, _⟩
    · exact ⟨_, _, _, h1⟩
    · exact ⟨_, _, _, h1⟩
  have bw2 := HH.out.2.1.trans (hb2.mono HH.out.2.1.size)
  have x2 := HH.out.2.2.1.on hb2
  clear hown hb2 hW1
  have hlt2 := x2.lt
  have q0 := x2.cell 0
  have q1 := x2.cell 1
  have q2 := x2.cell 2
  have q3 := x2.cell 3
  have q4 := x2.cell 4
  have q5 := x2.cell 5
  have q6 := x2.cell 6
  have g0 := x2.froz 0
  have g1 := x2.froz 1
  have g2 := x2.froz 2
  have g3 := x2.froz 3
  have g4 := x2.froz 4
  have g5 := x2.froz 5
  have g6 := x2.froz 6
  simp at q0 q1 q2 q3 q4 q5 q6
  have hsetc : ∀ Z : World, Below w.heap.size w Z → ∀ (a0 a1 a2 a3 a4 a5 a6 : Value), Below w.heap.size w (((((((Z.setCell ⟨w.heap.size, 0, none⟩ a0).setCell ⟨w.heap.size, 1, none⟩ a1).setCell ⟨w.heap.size, 2, none⟩ a2).setCell ⟨w.heap.size, 3, none⟩ a3).setCell ⟨w.heap.size, 4, none⟩ a4).setCell ⟨w.heap.size, 5, none⟩ a5).setCell ⟨w.heap.size, 6, none⟩ a6) := fun Z hz a0 a1 a2 a3 a4 a5 a6 =>
    ((((((hz.setc (Nat.le_refl _) 0 _).setc (Nat.le_refl _) 1 _).setc (Nat.le_refl _) 2 _).setc (Nat.le_refl _) 3 _).setc (Nat.le_refl _) 4 _).setc (Nat.le_refl _) 5 _).setc (Nat.le_refl _) 6 _
  have HS := Lib.hid (@hsetc)
  clear hsetc
  cases O with
  | some T =>
    obtain ⟨f1, f2, f3⟩ := rdT_facts HH.out.2.2.2.1
    rw [List.length_drop, HH.out.2.2.2.2.2.1] at f3
    have hmt : MT = some ⟨T.kind + 2, k, k + T.size, T.name, 0, T.single⟩ := by
      rw [← HH.out.2.2.2.2.1, markT, HH.out.2.2.2.1]
    have hcl : T.closed = CL := hCL
    simp only [Option.getD_some, Option.isSome_some]
    unfold G.tagV
    obtain ⟨kd, hkd⟩ : ∃ n, T.kind = n := ⟨_, rfl⟩
    obtain ⟨sz, hsz⟩ : ∃ n, T.size = n := ⟨_, rfl⟩
    obtain ⟨sg, hsg⟩ : ∃ n, T.single = n := ⟨_, rfl⟩
    obtain ⟨nm, hnm⟩ : ∃ n, T.name = n := ⟨_, rfl⟩
    rw [hkd] at f1
    rw [hsz] at f3
    rw [hkd, hsz, hnm, hsg] at hmt
    rw [hkd, hsz, hsg, hcl, hnm]
    unfold G.strV
    obtain ⟨SN, hSN⟩ : ∃ Sx : ByteArray, ⟨(G.u8s nm).toArray⟩ = Sx := ⟨_, rfl⟩
    rw [hSN]
    have HM := Lib.hid (And.intro hmt hSN)
    have HB := Lib.hid (And.intro bw2 x2)
    clear hmt hSN hkd hsz hsg hcl hnm bw2 x2 hCL
    go_wp2_with fail
    refine bodyPost_ret (v := .agg (refC (MT.getD tkZ) CL)) ?_ rfl ⟨rfl, ?_⟩
    · rw [HM.out.1, ← HM.out.2]
      simp [results, Tryz.results19, go_sem, q0, q1, q2, q3, q4, q5, q6, hlt2, refC]
    · have := HS.out w2 HB.out.1 (.int .i64 ((kd : Int) + 2)) (.int .i64 (k : Int)) (.int .i64 ((k : Int) + (sz : Int))) (.string SN) (.int .i32 0) (.bool sg) (.bool CL)
      exact this.trans ((below_new _ _).mono this.size)
  | none =>
    have hcl : CL = false := hCL.symm
    subst hcl
    simp only [Option.getD_none, Option.isSome_none]
    unfold G.tg0 G.tagV G.strV
    have hmt : MT = if 0 < (readE xs k).2 then some ⟨1, k, k + (readE xs k).2, [], (readE xs k).1, false⟩ else if 0 < (readT (xs.drop k)).size then some ⟨6, k, k + (readT (xs.drop k)).size, [], 0, false⟩ else none := by
      rw [← HH.out.2.2.2.2.1, markT, HH.out.2.2.2.1]
    have C2 := HC.out.1
    have C3 := HC.out.2
    obtain ⟨RE, hRE⟩ : ∃ v, readE xs k = v := ⟨_, rfl⟩
    obtain ⟨ES, hES⟩ : ∃ v, readT (xs.drop k) = v := ⟨_, rfl⟩
    rw [hRE] at C2 hmt hle
    rw [hES] at C3 hmt hrt
    obtain ⟨r1, n1⟩ := RE
    obtain ⟨s1, wh1, op1, la1⟩ := ES
    unfold escV at C3
    dsimp only at C2 C3 hmt hle hrt
    have HC2 := Lib.hid (And.intro C2 (And.intro C3 hmt))
    have HB := Lib.hid (And.intro bw2 x2)
    clear C2 C3 hmt hRE hES bw2 x2 hCL HC
    go_upto_region 4 with fail
    clear q0 q1 q2 q3 q4 q5 q6 g0 g1 g2 g3 g4 g5 g6 hlt2
    generalize hW3 : w2.alloc (.cells _ 56) = W3
    have b3 : Below w2.heap.size w2 W3 := by rw [← hW3]; exact below_new _ _
    have bw3 := HB.out.1.trans (b3.mono HB.out.1.size)
    have H3 := Lib.hid (And.intro bw3 (HB.out.2.on b3))
    have C2 := HC2.out.1 W3 bw3
    clear hW3 b3 bw3
    go_wp2_with fail
    refine C2.mono ?_
    rintro e w4 ⟨rfl, hb4⟩
    have bw4 := H3.out.1.trans (hb4.mono H3.out.1.size)
    have x4 := H3.out.2.on hb4
    have H4 := Lib.hid (And.intro bw4 x4)
    clear hb4 C2
    by_cases hn : 0 < n1
    · have i1 : (0 : Int) < (n1 : Int) := by omega
      have i2 : (k : Int) + (n1 : Int) ≤ 200000 := by omega
      have hmt := HC2.out.2.2
      rw [if_pos hn] at hmt
      have HM := Lib.hid hmt
      have q0 := x4.cell 0
      have q1 := x4.cell 1
      have q2 := x4.cell 2
      have q3 := x4.cell 3
      have q4 := x4.cell 4
      have q5 := x4.cell 5
      have q6 := x4.cell 6
      have g0 := x4.froz 0
      have g1 := x4.froz 1
      have g2 := x4.froz 2
      have g3 := x4.froz 3
      have g4 := x4.froz 4
      have g5 := x4.froz 5
      have g6 := x4.froz 6
      have hlt := x4.lt
      simp at q0 q1 q2 q3 q4 q5 q6
      clear bw4 x4 hmt hn
      go_wp2_with fail
      refine bodyPost_ret (v := .agg (refC (MT.getD tkZ) false)) ?_ rfl ⟨rfl, ?_⟩
      · rw [HM.out]
        simp [results, Tryz.results19, go_sem, q0, q1, q2, q3, q4, q5, q6, refC, G.u8s]
      · exact HS.out w4 H4.out.1 _ _ _ _ _ _ _
    · have i1 : ¬ (0 : Int) < (n1 : Int) := by omega
      have hmt := HC2.out.2.2
      rw [if_neg hn] at hmt
      have C3 := HC2.out.2.1 w4 bw4
      clear bw4 x4 hn
      go_wp2_with fail
      refine C3.mono ?_
      rintro e w5 ⟨rfl, hb5⟩
      have bw5 := H4.out.1.trans (hb5.mono H4.out.1.size)
      have x5 := H4.out.2.on hb5
      clear hb5 C3
      have H5 := Lib.hid (And.intro bw5 x5)
      clear bw5 x5
      go_upto_region 8 with fail
      generalize hW6 : w5.alloc (.cells #[.int .i64 (s1 : Int), .bool wh1, .bool op1, .int .u8 (la1 : Int)] 62) = W6
      have b6 : Below w5.heap.size w5 W6 := by rw [← hW6]; exact below_new _ _
      have e6 : Cells W6 w5.heap.size 62 #[.int .i64 (s1 : Int), .bool wh1, .bool op1, .int .u8 (la1 : Int)] := by rw [← hW6]; exact cells_new _ _ _
      have x6 := H5.out.2.on b6
      have H6 := Lib.hid (H5.out.1.trans (b6.mono H5.out.1.size))
      have p0 := e6.cell 0
      simp at p0
      have q0 := x6.cell 0
      have q1 := x6.cell 1
      have q2 := x6.cell 2
      have q3 := x6.cell 3
      have q4 := x6.cell 4
      have q5 := x6.cell 5
      have q6 := x6.cell 6
      have g0 := x6.froz 0
      have g1 := x6.froz 1
      have g2 := x6.froz 2
      have g3 := x6.froz 3
      have g4 := x6.froz 4
      have g5 := x6.froz 5
      have g6 := x6.froz 6
      have hlt := x6.lt
      simp at q0 q1 q2 q3 q4 q5 q6
      clear hW6 b6 e6 x6
      by_cases hs : 0 < s1
      · have i3 : (0 : Int) < (s1 : Int) := by omega
        have i4 : (k : Int) + (s1 : Int) ≤ 200000 := by omega
        rw [if_pos hs] at hmt
        have HM := Lib.hid hmt
        clear hmt hs
        go_wp2_with fail
        refine bodyPost_ret (v := .agg (refC (MT.getD tkZ) false)) ?_ rfl ⟨rfl, ?_⟩
        · rw [HM.out]
          simp [results, Tryz.results19, go_sem, q0, q1, q2, q3, q4, q5, q6, refC, G.u8s]
        · exact HS.out W6 H6.out _ _ _ _ _ _ _
      · have i3 : ¬ (0 : Int) < (s1 : Int) := by omega
        rw [if_neg hs] at hmt
        have HM := Lib.hid hmt
        clear hmt hs
        go_wp2_with fail
        refine bodyPost_ret (v := .agg (refC (MT.getD tkZ) false)) ?_ rfl ⟨rfl, ?_⟩
        · rw [HM.out]
          simp [results, Tryz.results19, go_sem, q0, q1, q2, q3, q4, q5, q6, refC, tkZ, G.u8s]
        · exact HS.out W6 H6.out _ _ _ _ _ _ _
end Go.Proofs.YtnedjafpjbfncaaGreatDoor

namespace Go.Proofs.YtnedjafpjbfncaaGreatDoor
open Go.RowKit Go.Shelf Go.Lib Go.Maps Go.Great
attribute [local irreducible] NR ZNR FR nmE

/-- What is left from a place on, where a text began at e. -/
def restF (xs : List Nat) (e k : Nat) : List TK := outF e (marksL xs k) ++ txs (endF e (marksL xs k)) xs.length
theorem restF_same (xs : List Nat) (k : Nat) : restF xs k k = fromF xs k := rfl
theorem restF_none {xs : List Nat} {e k : Nat} (h : k < xs.length) (hm : markT xs k = none) : restF xs e k = restF xs e (k + 1) := by
  unfold restF
  rw [marksL_none h hm]
theorem restF_end {xs : List Nat} {e k : Nat} (h : ¬ k < xs.length) : restF xs e k = txs e xs.length := by
  unfold restF
  rw [marksL_end h]
  rfl
theorem restF_some {xs : List Nat} {e k : Nat} {t : TK} (h : k < xs.length) (hm : markT xs k = some t) : restF xs e k = txs e k ++ (t :: (rawTok xs t ++ fromF xs (rawT xs t))) := by
  have h1 := mark_to (by omega) hm
  have h2 := rawT_le (xs := xs) (x := t) h1.2.2.1
  by_cases hr : t.to < rawT xs t
  · have e1 : rawTok xs t = [⟨7, t.to, rawT xs t, [], 0, false⟩] := by unfold rawTok; rw [if_pos hr]
    have e3 : txs t.to t.to = [] := by unfold txs; rw [if_neg (Nat.lt_irrefl _)]
    unfold restF fromF
    rw [marksL_some h hm, e1]
    show (txs e t.fr ++ (t :: (txs t.to t.to ++ (⟨7, t.to, rawT xs t, [], 0, false⟩ :: outF (rawT xs t) (marksL xs (rawT xs t)))))) ++ txs (endF (rawT xs t) (marksL xs (rawT xs t))) xs.length = _
    rw [e3, h1.1]
    simp
  · have e1 : rawTok xs t = [] := by unfold rawTok; rw [if_neg hr]
    have e4 : rawT xs t = t.to := by omega
    unfold restF fromF
    rw [marksL_some h hm, e1, e4]
    show (txs e t.fr ++ (t :: outF t.to (marksL xs t.to))) ++ txs (endF t.to (marksL xs t.to)) xs.length = _
    rw [h1.1]
    simp
/-- Between two tokens: no name; a text may lie open from e on. -/
def StA (xs : List Nat) (k : Nat) (l : List TK) : Prop := ∃ l' e, e ≤ k ∧ l = l' ++ txs e k ∧ eachL xs = l' ++ restF xs e k ∧ (l' = [] ∨ ∃ m y, l' = m ++ [y] ∧ y.kind ≠ 0)
/-- Behind a tag whose raw bytes may follow. -/
def StC (xs : List Nat) (k : Nat) (l : List TK) (nm : List Nat) : Prop := ∃ l' t, l = l' ++ [t] ∧ nm = t.name ∧ t.to = k ∧ t.kind = 2 ∧ isRaw t = true ∧ eachL xs = l ++ (rawTok xs t ++ fromF xs (rawT xs t))
theorem stA_zero (xs : List Nat) : StA xs 0 [] := ⟨[], 0, Nat.le_refl _, rfl, rfl, .inl rfl⟩
theorem stA_end {xs : List Nat} {k : Nat} {l : List TK} (h : StA xs k l) (hk : k = xs.length) : l = eachL xs := by
  obtain ⟨l', e, h1, h2, h3, _⟩ := h
  rw [h3, restF_end (by omega), h2, hk]
/-- A text's next byte. -/
theorem stA_none {xs : List Nat} {k : Nat} {l : List TK} (h : StA xs k l) (hk : k < xs.length) (hm : markT xs k = none) :
    (∃ l' e, e < k ∧ l = l' ++ [txT e k] ∧ StA xs (k + 1) (l' ++ [txT e (k + 1)])) ∨ ((l = [] ∨ ∃ m y, l = m ++ [y] ∧ y.kind ≠ 0) ∧ StA xs (k + 1) (l ++ [txT k (k + 1)])) := by
  obtain ⟨l', e, h1, h2, h3, h4⟩ := h
  have h5 : StA xs (k + 1) (l' ++ [txT e (k + 1)]) := ⟨l', e, by omega, by unfold txs; rw [if_pos (by omega)], by rw [h3, restF_none hk hm], h4⟩
  by_cases c : e < k
  · exact .inl ⟨l', e, c, by rw [h2]; unfold txs; rw [if_pos c], h5⟩
  · obtain rfl : e = k := by omega
    have e1 : txs e e = [] := by unfold txs; rw [if_neg (Nat.lt_irrefl _)]
    rw [e1, List.append_nil] at h2
    subst h2
    exact .inr ⟨h4, h5⟩
/-- A mark behind which nothing is raw. -/
theorem stA_some {xs : List Nat} {k : Nat} {l : List TK} {t : TK} (h : StA xs k l) (hk : k < xs.length) (hm : markT xs k = some t) (hr : isRaw t = false ∨ closT xs k = false) : StA xs t.to (l ++ [t]) := by
  obtain ⟨l', e, h1, h2, h3, h4⟩ := h
  have m1 := mark_to (by omega) hm
  have hrt : rawT xs t = t.to := by
    rcases hr with hr | hr
    · exact not_raw hr xs
    · cases hi : isRaw t with
      | false => exact not_raw hi xs
      | true =>
        have h2 := rawT_le (xs := xs) (x := t) m1.2.2.1
        have hk2 := isRaw_kind hi
        have : t.to = xs.length := by
          unfold markT at hm
          unfold closT at hr
          cases hT : G.rdT (xs.drop k) with
          | none =>
            rw [hT] at hm
            dsimp only at hm
            split at hm
            · cases hm
              cases hk2
            · split at hm
              · cases hm
                cases hk2
              · cases hm
          | some T =>
            rw [hT] at hm hr
            cases hm
            have hk0 : T.kind = 0 := by have : T.kind + 2 = 2 := hk2; omega
            have := rdT_closed hT hk0 hr
            rw [List.length_drop] at this
            show k + T.size = xs.length
            omega
        omega
  have e1 : rawTok xs t = [] := by unfold rawTok; rw [if_neg (by omega)]
  refine ⟨l' ++ txs e k ++ [t], t.to, Nat.le_refl _, ?_, ?_, .inr ⟨_, t, rfl, by omega⟩⟩
  · rw [h2]
    unfold txs
    simp
  · rw [h3, restF_some hk hm, e1, hrt, restF_same]
    simp
/-- A tag behind which bytes may be raw. -/
theorem stA_tag {xs : List Nat} {k : Nat} {l : List TK} {t : TK} (h : StA xs k l) (hk : k < xs.length) (hm : markT xs k = some t) (hr : isRaw t = true) : StC xs t.to (l ++ [t]) t.name := by
  obtain ⟨l', e, h1, h2, h3, h4⟩ := h
  refine ⟨l, t, rfl, rfl, rfl, isRaw_kind hr, hr, ?_⟩
  rw [h3, restF_some hk hm, h2]
  simp
theorem stC_end {xs : List Nat} {k : Nat} {l : List TK} {nm : List Nat} (h : StC xs k l nm) (hk : k = xs.length) : l = eachL xs := by
  obtain ⟨l', t, h1, h2, h3, h4, h5, h6⟩ := h
  have h7 := rawT_le (xs := xs) (x := t) (by omega)
  have e1 : rawTok xs t = [] := by unfold rawTok; rw [if_neg (by omega)]
  rw [h6, e1, fromF_end (by omega) h7.2]
  simp
/-- No raw bytes. -/
theorem stC_ends {xs : List Nat} {k : Nat} {l : List TK} {nm : List Nat} (h : StC xs k l nm) (hk : k < xs.length) (he : endR (xs.drop k) nm = true) : StA xs k l := by
  obtain ⟨l', t, h1, h2, h3, h4, h5, h6⟩ := h
  have hrt : rawT xs t = k := by
    unfold rawT
    rw [if_pos h5, h3, scanR_at hk, ← h2, he]
    rfl
  have e1 : rawTok xs t = [] := by unfold rawTok; rw [if_neg (by omega)]
  rw [e1, hrt] at h6
  refine ⟨l, k, Nat.le_refl _, ?_, by rw [restF_same]; exact h6, .inr ⟨l', t, h1, by omega⟩⟩
  unfold txs
  simp
theorem scanR_gt {nm xs : List Nat} {k : Nat} (hk : k < xs.length) (he : endR (xs.drop k) nm = false) : k < scanR nm (xs.drop k) k := by
  rw [scanR_at hk, he]
  have := scanR_le nm (xs.drop (k + 1)) (k + 1)
  simp only [Bool.false_eq_true, if_false]
  omega
/-- Raw bytes. -/
theorem stC_raw {xs : List Nat} {k : Nat} {l : List TK} {nm : List Nat} (h : StC xs k l nm) (hk : k < xs.length) (he : endR (xs.drop k) nm = false) :
    StA xs (scanR nm (xs.drop k) k) (l ++ [⟨7, k, scanR nm (xs.drop k) k, [], 0, false⟩]) := by
  obtain ⟨l', t, h1, h2, h3, h4, h5, h6⟩ := h
  have hrt : rawT xs t = scanR nm (xs.drop k) k := by
    unfold rawT
    rw [if_pos h5, h3, ← h2]
  have hgt := scanR_gt hk he
  have e1 : rawTok xs t = [⟨7, k, scanR nm (xs.drop k) k, [], 0, false⟩] := by unfold rawTok; rw [if_pos (by omega), hrt, h3]
  rw [e1, hrt] at h6
  refine ⟨l ++ [⟨7, k, scanR nm (xs.drop k) k, [], 0, false⟩], scanR nm (xs.drop k) k, Nat.le_refl _, ?_, ?_, .inr ⟨l, _, rfl, by show 7 ≠ 0; omega⟩⟩
  · unfold txs
    simp
  · rw [restF_same, h6]
    simp
end Go.Proofs.YtnedjafpjbfncaaGreatDoor

