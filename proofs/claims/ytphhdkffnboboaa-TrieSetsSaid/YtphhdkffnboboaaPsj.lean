/-
  Contracts: virguleref02.insert.
  Contracts: virguleref02.points.
  The document's gather, in plain words: between two places where something may change, nothing changes.
  Contracts: virguleref02.gather, at each of its four kinds.
-/
import Derived.BigRegion
import Derived.Deep.RegionLaw
import Derived.Test.YtphhdkffnboboaaPsc
import Derived.Test.YtphhdkffnboboaaPsi
import Derived.Deep.RegionHeld3
import Derived.Deep.QuietTactic
import Derived.IntWalk
namespace Go.Proofs.Ytphhdkffnboboaa
open Go.RowKit Go.Shelf
open Go.Lib

theorem step_append_src {P : Program} {w : World} {ops : Array Oper} {o : Oper} {a : Act} {K : Act → World → Prop} {Q : Exit → Act → World → Prop} {E : Prop} (hgd : o.guard = none) (s x : Operand) (t : TypeId)
    (ho : o.op = .call { callee := .builtin .append, args := #[s, x], argTypes := #[t, t] })
    (base : Nat) (e : TypeId) (i : TypeInfo) (z : Value) (bytes : Nat) (ht : P.underlying t = some (.slice e)) (hi : P.info? e = some i) (hz : i.zero = some z)
    (hsize : i.size = 1) (hby : i.bytes = bytes) (hzs : z.cells.size = 1)
    (v : Value) (n : Nat) (xs : List Value) (hs : a.eval s = v) (hown : w.ownsRow base e 1 v n xs)
    (A : Option Addr) (m c : Nat) (news : List Value) (hx : a.eval x = .slice A m c) (hsrc : Src w A m c news) (h1 : ∀ u ∈ news, u.oneCell' = true)
    (h63 : n + m ≤ maxLen) (hbytes : (n + m) * bytes ≤ 140737488355328) (hbase : base ≤ w.heap.size)
    (h : ∀ v' w', w'.ownsRow base e 1 v' (n + m) (xs ++ news) → Below base w w' → w.grownBy w' v.ownBlock → K (a.put o.dst v') w') : if Region.wanted o (yielded ops a.tmps) = true then Oper.wp P o a w K Q else E := by
  have hw : Region.wanted o (yielded ops a.tmps) = true := by simp [Region.wanted, hgd]
  rw [if_pos hw]
  have key : ∃ v' w', (Builtin.append_ #[t, t] o.type #[v, .slice A m c]).run P w = .ok v' w' ∧ w'.ownsRow base e 1 v' (n + m) (xs ++ news) ∧ Below base w w' ∧ w.grownBy w' v.ownBlock := by
    rcases hsrc with ⟨rfl, rfl, rfl, rfl⟩ | ⟨ad, rfl, _, hl, hcells⟩
    · exact ⟨v, w, run_append_owned_none (P := P) (w := w) base t o.type e i 1 ht hi v _ _ hown, by simpa using hown, Below.refl _ _, ⟨rfl, rfl, rfl, Nat.le_refl _, fun _ _ _ => rfl⟩⟩
    · obtain ⟨v', w', h1, h2, h3, h4, _⟩ := run_append_own_at (P := P) w base t o.type e i z 1 bytes ht hi hz hsize hby hzs (by omega) v n xs hown ad m c news (by omega) hcells h1 h63 hbytes hbase
      exact ⟨v', w', h1, h2, (Below.refl _ w).grown h3 hbase (fun k e' => (own_block_lt hown k e').1), h3⟩
  obtain ⟨v', w', hrun, h2, h3, h4⟩ := key
  unfold Oper.wp
  simp [execOp, ho, resolve, invoke, builtin, hs, hx, hrun, Result.andThen]
  exact h v' w' h2 h3 h4

/-- A row of numbers. -/
def IS (w : World) (B b o n : Nat) (f : Nat → Int) : Prop := b < B ∧ ∀ i, i < n → w.cell? ⟨b, o + i, none⟩ = some (.int .i32 (f i))
def ints (l : List Int) : List Value := l.map (.int .i32 ·)
theorem ints_one (l : List Int) : ∀ u ∈ ints l, u.oneCell' = true := by
  intro u hu
  obtain ⟨x, _, rfl⟩ := List.mem_map.1 hu
  rfl
/-- A slice of numbers that rise. -/
structure LS (w : World) (B : Nat) (A : Option Addr) (cap : Nat) (l : List Int) : Prop where
  c : l.length ≤ cap
  m : cap ≤ maxLen
  i : ∀ x ∈ l, -2147483648 ≤ x ∧ x ≤ 2147483647
  a : ∃ b o, A = some ⟨b, o, none⟩ ∧ b < B ∧ ∀ i x, l[i]? = some x → w.cell? ⟨b, o + i, none⟩ = some (.int .i32 x)
theorem LS.below {w w' : World} {B : Nat} {A : Option Addr} {cap : Nat} {l : List Int} (h : LS w B A cap l) (hb : Below B w w') : LS w' B A cap l := by
  obtain ⟨b, o, e, hl, hc⟩ := h.a
  exact ⟨h.c, h.m, h.i, b, o, e, hl, fun i x hx => (hb.cell (p := ⟨b, o + i, none⟩) hl).trans (hc i x hx)⟩
theorem LS.mono {w : World} {B B' : Nat} {A : Option Addr} {cap : Nat} {l : List Int} (h : LS w B A cap l) (hb : B ≤ B') : LS w B' A cap l := by
  obtain ⟨b, o, e, hl, hc⟩ := h.a
  exact ⟨h.c, h.m, h.i, b, o, e, by omega, hc⟩

theorem lt_step (l : List Int) (k : Nat) (x r : Int) (h : l[k]? = some x) (hl : ∀ y ∈ l.take k, y < r) (hx : x < r) : ∀ y ∈ l.take (k + 1), y < r := by
  rw [List.take_add_one, h]
  intro y hy
  rcases List.mem_append.1 hy with hy | hy
  · exact hl y hy
  · simp at hy; omega

/-- r put into numbers that rise. -/
structure Ins (l : List Int) (r : Int) (l' : List Int) : Prop where
  s : l'.Pairwise (· < ·)
  m : ∀ x, x ∈ l' ↔ x = r ∨ x ∈ l
  n : l'.length ≤ l.length + 1

theorem ins_there {l : List Int} (h : l.Pairwise (· < ·)) {k : Nat} {r : Int} (hk : l[k]? = some r) : Ins l r l :=
  ⟨h, fun x => ⟨.inr, fun h => h.elim (fun e => by rw [e]; exact List.mem_of_getElem? hk) id⟩, Nat.le_succ _⟩
theorem ins_new {l : List Int} (h : l.Pairwise (· < ·)) {k : Nat} {r : Int} (h1 : ∀ y ∈ l.take k, y < r) (h2 : ∀ y, l[k]? = some y → r < y) : Ins l r (l.take k ++ [r] ++ l.drop k) := by
  have h3 : ∀ y ∈ l.drop k, r < y := fun y hy => by
    obtain ⟨j, hj⟩ := List.mem_iff_getElem?.1 hy
    rw [List.getElem?_drop] at hj
    obtain ⟨hl, rfl⟩ := List.getElem?_eq_some_iff.1 hj
    have hk : k < l.length := by omega
    have := h2 l[k] (List.getElem?_eq_getElem hk)
    rcases Nat.eq_zero_or_pos j with rfl | hj0
    · exact this
    · exact Int.lt_trans this (List.pairwise_iff_getElem.1 h k (k + j) hk hl (by omega))
  refine ⟨?_, fun x => ?_, by simp; omega⟩
  · rw [List.append_assoc, List.pairwise_append]
    refine ⟨h.sublist (List.take_sublist _ _), ?_, ?_⟩
    · rw [List.singleton_append, List.pairwise_cons]
      exact ⟨h3, h.sublist (List.drop_sublist _ _)⟩
    · intro a ha b hb
      rcases List.mem_append.1 hb with hb | hb
      · rw [List.mem_singleton.1 hb]; exact h1 a ha
      · exact Int.lt_trans (h1 a ha) (h3 b hb)
  · conv => rhs; rw [← List.take_append_drop k l]
    simp only [List.mem_append, List.mem_singleton]
    constructor
    · rintro ((a | a) | a)
      · exact .inr (.inl a)
      · exact .inl a
      · exact .inr (.inr a)
    · rintro (a | a | a)
      · exact .inl (.inr a)
      · exact .inl (.inl a)
      · exact .inr a

/-- What insert hands back. -/
def InsPost (l : List Int) (r : Int) (w : World) (e : Ending) (w' : World) : Prop :=
  ∃ l' A c, e = .returned (.slice A l'.length c) ∧ Ins l r l' ∧ LS w' w'.heap.size A c l' ∧ Below w.heap.size w w'

theorem src_take {w W : World} {b o cap : Nat} {l : List Int} {k : Nat} (h : LS w w.heap.size (some ⟨b, o, none⟩) cap l) (hb : Below w.heap.size w W) (hk : k ≤ l.length) : Src W (some ⟨b, o, none⟩) k cap (ints (l.take k)) := by
  obtain ⟨b', o', e, hl, hc⟩ := h.a
  injection e with e
  injection e with e1 e2 e3
  refine .inr ⟨_, rfl, fun _ => Nat.lt_of_lt_of_le (by rw [e1]; exact hl) hb.size, by simp [ints]; omega, fun j u hu => ?_⟩
  rw [Addr.add_lit]
  simp only [ints, List.getElem?_map, List.getElem?_take] at hu
  split at hu
  · obtain ⟨x, hx, rfl⟩ := Option.map_eq_some_iff.1 hu
    rw [e1, e2]
    exact (hb.cell (p := ⟨b', o' + j, none⟩) hl).trans (hc j x hx)
  · simp at hu
theorem src_drop {w W : World} {b o cap : Nat} {l : List Int} {k : Nat} (h : LS w w.heap.size (some ⟨b, o, none⟩) cap l) (hb : Below w.heap.size w W) (hk : k ≤ l.length) : Src W (if cap = k then some ⟨b, o, none⟩ else some ⟨b, o + k, none⟩) (l.length - k) (cap - k) (ints (l.drop k)) := by
  obtain ⟨b', o', e, hl, hc⟩ := h.a
  injection e with e
  injection e with e1 e2 e3
  have hcap := h.c
  by_cases c : cap = k
  · rw [if_pos c]
    have : l.drop k = [] := List.drop_eq_nil_iff.2 (by omega)
    rw [this]
    refine .inr ⟨_, rfl, fun _ => Nat.lt_of_lt_of_le (by rw [e1]; exact hl) hb.size, by simp [ints]; omega, fun j u hu => by simp [ints] at hu⟩
  · rw [if_neg c]
    refine .inr ⟨_, rfl, fun _ => Nat.lt_of_lt_of_le (by rw [e1]; exact hl) hb.size, by simp [ints], fun j u hu => ?_⟩
    rw [Addr.add_lit]
    simp only [ints, List.getElem?_map, List.getElem?_drop] at hu
    obtain ⟨x, hx, rfl⟩ := Option.map_eq_some_iff.1 hu
    rw [e1, e2, Nat.add_assoc]
    exact (hb.cell (p := ⟨b', o' + (k + j), none⟩) hl).trans (hc (k + j) x hx)
theorem cell_one (B : Nat) (W : World) (r : Int) (h : W.heap[B]? = some (.cells #[.int .i32 r] 21)) : Src W (some ⟨B, 0, none⟩) 1 1 [.int .i32 r] := by
  refine .inr ⟨_, rfl, fun _ => (Array.getElem?_eq_some_iff.1 h).1, rfl, fun j u hu => ?_⟩
  rw [add0]
  have := Cells.cell (show Cells W B 21 _ from h) j
  rw [this]
  simpa using hu
theorem src_far {W W' : World} {B : Nat} {A : Option Nat} {news : List Value} (h : Src W (some ⟨B, 0, none⟩) 1 1 news) (hg : W.grownBy W' A) (hne : A ≠ some B) : Src W' (some ⟨B, 0, none⟩) 1 1 news := by
  rcases h with ⟨h, _⟩ | ⟨ad, e, hl, h1, h2⟩
  · cases h
  · injection e with e
    subst e
    refine .inr ⟨_, rfl, fun hm => Nat.lt_of_lt_of_le (hl hm) hg.size, h1, fun j u hu => ?_⟩
    rw [hg.cell_far ((⟨B, 0, none⟩ : Addr).add j) (by rw [block_add]; exact hl (by omega)) (by rw [block_add]; exact fun e => hne e.symm)]
    exact h2 j u hu
theorem ins_done {l l' : List Int} {r : Int} {w w' : World} {B m : Nat} {v : Value} (hI : Ins l r l') (hown : w'.ownsRow B 21 1 v m (ints l')) (hm : m = l'.length) (hb : ∀ x ∈ l', -2147483648 ≤ x ∧ x ≤ 2147483647) (hB : Below w.heap.size w w') : InsPost l r w (.returned v) w' := by
  subst hm
  have hne : 0 < l'.length := List.length_pos_iff.2 (fun e => by have := (hI.m r).2 (.inl rfl); rw [e] at this; simp at this)
  rcases hown.2 with ⟨_, h0⟩ | ⟨g, cap, cur, rfl, hgb, hh, h1, h2, h3, h4⟩
  · omega
  · refine ⟨l', _, cap, rfl, hI, ⟨h1, h2, hb, g, 0, rfl, (Array.getElem?_eq_some_iff.1 hh).1, fun i x hx => ?_⟩, hB⟩
    have hlt := (List.getElem?_eq_some_iff.1 hx).1
    rw [Nat.zero_add, hown.cellAt i (by omega)]
    simp [ints, hx]

set_option maxHeartbeats 8000000 in
set_option maxRecDepth 100000 in
theorem insert_any (A : Option Addr) (cap : Nat) (l : List Int) (r : Int) (w : World) (h : LS w w.heap.size A cap l) (hs : l.Pairwise (· < ·)) (hr0 : -2147483648 ≤ r) (hr1 : r ≤ 2147483647) (hl : l.length ≤ 1000000) :
    Calls Try.prog 82 #[.slice A l.length cap, .int .i32 r] w (InsPost l r w) := by
  obtain ⟨i21, hi21, hz210, hz211, hz212⟩ := info_parts Try.info21
  have H := Lib.hid h
  have HS := Lib.hid hs
  obtain ⟨b, o, rfl, hbl, hc⟩ := h.a
  have hcap := h.c
  have hmx := h.m
  have HC := Lib.hid hc
  obtain ⟨n, hn⟩ : ∃ n, l.length = n := ⟨_, rfl⟩
  have HN := Lib.hid hn
  rw [hn] at hl hcap ⊢
  unfold maxLen at hmx
  clear h hs hc hn
  go_enter Try.func82, Try.ntmps82
  go_wp2
  go_loopw [5] (fun i wr => ∃ k : Nat, i = .int .i64 k ∧ k ≤ n ∧ (∀ y ∈ l.take k, y < r) ∧ wr = w) (fun i _ => n - (RowKit.intOf i).toNat)
  case atStart => exact ⟨0, rfl, Nat.zero_le _, (fun y hy => by simp at hy), rfl⟩
  case round =>
    obtain ⟨k, rfl, hk, hlt0, rfl⟩ := hrel
    have HLT := Lib.hid hlt0
    clear hlt0
    by_cases hlt : k < n
    · obtain ⟨x, hx⟩ : ∃ x, l[k]? = some x := ⟨l[k]'(by have := HN.out; omega), List.getElem?_eq_getElem _⟩
      have q := HC.out k x hx
      have hxb := H.out.i x (List.mem_of_getElem? hx)
      have HX := Lib.hid hx
      clear hx
      have i1 : (k : Int) < (n : Int) := by omega
      by_cases c1 : x < r
      · have HT := Lib.hid (lt_step l k x r HX.out HLT.out c1)
        go_wp2
        go_roundw
        case rel => exact ⟨k + 1, by go_num, by omega, HT.out, trivial⟩
        case measure => simp [RowKit.intOf]; omega
      · have d1 : decide (x < r) = false := by simpa using c1
        by_cases c2 : x = r
        · subst c2
          have HI := Lib.hid (ins_there HS.out HX.out)
          go_wp2
          go_ret
          exact ⟨l, _, _, by rw [HN.out]; rfl, HI.out, H.out, Below.refl _ _⟩
        · have HI := Lib.hid (ins_new HS.out HLT.out (k := k) (r := r) (fun y hy => by rw [HX.out] at hy; injection hy with hy; omega))
          have hkc : k ≤ cap := by omega
          have HN2 := Lib.hid (HN.out)
          have S1 : Hid (∀ W, Below wr.heap.size wr W → Src W (some ⟨b, o, none⟩) k cap (ints (l.take k))) := Lib.hid fun W hb => src_take H.out hb (by have := HN.out; omega)
          have S2 : Hid (∀ W, Below wr.heap.size wr W → Src W (if cap = k then some ⟨b, o, none⟩ else some ⟨b, o + k, none⟩) (n - k) (cap - k) (ints (l.drop k))) := Lib.hid fun W hb => by rw [← HN.out]; exact src_drop H.out hb (by have := HN.out; omega)
          have HW0 : Hid (Below wr.heap.size wr wr) := Lib.hid (Below.refl _ _)
          have HBE : Hid (∀ o, Below wr.heap.size wr (wr.alloc o)) := Lib.hid fun o => below_new _ _
          have HBB : Hid (∀ o o', Below wr.heap.size wr ((wr.alloc o).alloc o')) := Lib.hid fun o o' => (below_new _ _).alloc (by simp) _
          have fC := own_empty wr wr.heap.size 21 (Nat.le_refl _)
          have fA := fC.alloc (.cells #[.int .i32 r] 21)
          have fB := own_empty (wr.alloc (.cells #[.int .i32 r] 21)) wr.heap.size 21 (by simp)
          rw [World.size_alloc] at fB
          have HA := Lib.hid fA
          have HB := Lib.hid fB
          have HCc := Lib.hid fC
          have rA := cell_one wr.heap.size.succ ((wr.alloc (.cells #[] 21)).alloc (.cells #[.int .i32 r] 21)) r (by have h := World.alloc_heap_new (wr.alloc (.cells #[] 21)) (.cells #[.int .i32 r] 21); rwa [World.size_alloc] at h)
          have rB := cell_one wr.heap.size ((wr.alloc (.cells #[.int .i32 r] 21)).alloc (.cells #[] 21)) r (by rw [Below.heap_alloc _ _ _ (by simp)]; exact World.alloc_heap_new _ _)
          have HrA := Lib.hid rA
          have HrB := Lib.hid rB
          clear fA fB fC rA rB
          go_wp2_with fail
          go_region_law (first
            | (refine step_append_src (w := ((wr.alloc (.cells #[] 21)).alloc (.cells #[.int .i32 r] 21)).drew) rfl (.tmp 33) (.tmp 36) 23 rfl wr.heap.size 21 i21 (.int .i32 0) 4 Try.underlying23 hi21 hz210 hz211 hz212 rfl (.slice (some ⟨wr.heap.size, 0, none⟩) 0 0) 0 [] (by simp [Act.eval] <;> omega) (show World.ownsRow (((wr.alloc (.cells #[] 21)).alloc (.cells #[.int .i32 r] 21)).drew) wr.heap.size 21 1 _ 0 [] from HA.out) (some ⟨b, o, none⟩) k cap (ints (l.take k)) (by simp [Act.eval] <;> omega) (S1.out _ (HBB.out _ _).drew) (ints_one _) (by unfold maxLen; omega) (by omega) (HBB.out _ _).size ?_
               intro v1 w1 ho1 hb1 hg1
               have hbw1 := (HBB.out _ _).drew.trans hb1
               have hR1 := src_far (W := ((wr.alloc (.cells #[] 21)).alloc (.cells #[.int .i32 r] 21)).drew) (B := wr.heap.size + 1) HrA.out hg1 (by simp [Value.ownBlock]))
            | (refine step_append_src (w := ((wr.alloc (.cells #[.int .i32 r] 21)).alloc (.cells #[] 21)).drew) rfl (.tmp 33) (.tmp 36) 23 rfl wr.heap.size 21 i21 (.int .i32 0) 4 Try.underlying23 hi21 hz210 hz211 hz212 rfl (.slice (some ⟨wr.heap.size + 1, 0, none⟩) 0 0) 0 [] (by simp [Act.eval] <;> omega) (show World.ownsRow (((wr.alloc (.cells #[.int .i32 r] 21)).alloc (.cells #[] 21)).drew) wr.heap.size 21 1 _ 0 [] from HB.out) (some ⟨b, o, none⟩) k cap (ints (l.take k)) (by simp [Act.eval] <;> omega) (S1.out _ (HBB.out _ _).drew) (ints_one _) (by unfold maxLen; omega) (by omega) (HBB.out _ _).size ?_
               intro v1 w1 ho1 hb1 hg1
               have hbw1 := (HBB.out _ _).drew.trans hb1
               have hR1 := src_far (W := ((wr.alloc (.cells #[.int .i32 r] 21)).alloc (.cells #[] 21)).drew) (B := wr.heap.size) HrB.out hg1 (by simp [Value.ownBlock]))
            | (refine step_append_src (w := (wr.alloc (.cells #[] 21)).drew) rfl (.tmp 33) (.tmp 36) 23 rfl wr.heap.size 21 i21 (.int .i32 0) 4 Try.underlying23 hi21 hz210 hz211 hz212 rfl (.slice (some ⟨wr.heap.size, 0, none⟩) 0 0) 0 [] (by simp [Act.eval] <;> omega) (show World.ownsRow ((wr.alloc (.cells #[] 21)).drew) wr.heap.size 21 1 _ 0 [] from HCc.out) (some ⟨b, o, none⟩) k cap (ints (l.take k)) (by simp [Act.eval] <;> omega) (S1.out _ (HBE.out _).drew) (ints_one _) (by unfold maxLen; omega) (by omega) (HBE.out _).size ?_
               intro v1 w1 ho1 hb1 hg1
               have hbw1 := (HBE.out _).drew.trans hb1)
            | (refine step_append_src (w := w1) rfl (.tmp 37) (.tmp 39) 23 rfl wr.heap.size 21 i21 (.int .i32 0) 4 Try.underlying23 hi21 hz210 hz211 hz212 rfl v1 (0 + k) ([] ++ ints (l.take k)) (by simp [Act.eval] <;> omega) ho1 _ 1 1 [.int .i32 r] (by simp [Act.eval] <;> omega) hR1 (ints_one [r]) (by unfold maxLen; omega) (by omega) hbw1.size ?_
               intro v2 w2 ho2 hb2 _
               have hbw2 := hbw1.trans hb2)
            | (refine step_append_src (w := w1.alloc (.cells #[.int .i32 r] 21)) rfl (.tmp 37) (.tmp 39) 23 rfl wr.heap.size 21 i21 (.int .i32 0) 4 Try.underlying23 hi21 hz210 hz211 hz212 rfl v1 (0 + k) ([] ++ ints (l.take k)) (by simp [Act.eval] <;> omega) (ho1.alloc _) (some ⟨w1.heap.size, 0, none⟩) 1 1 [.int .i32 r] (by simp [Act.eval] <;> omega) (cell_one w1.heap.size _ r (World.alloc_heap_new _ _)) (ints_one [r]) (by unfold maxLen; omega) (by omega) (hbw1.alloc hbw1.size _).size ?_
               intro v2 w2 ho2 hb2 _
               have hbw2 := (hbw1.alloc hbw1.size _).trans hb2)
            | (refine step_append_src (w := w2) rfl (.tmp 40) (.tmp 43) 23 rfl wr.heap.size 21 i21 (.int .i32 0) 4 Try.underlying23 hi21 hz210 hz211 hz212 rfl v2 (0 + k + 1) ([] ++ ints (l.take k) ++ [.int .i32 r]) (by simp [Act.eval] <;> omega) ho2 (if cap = k then some ⟨b, o, none⟩ else some ⟨b, o + k, none⟩) (n - k) (cap - k) (ints (l.drop k)) (by simp [Act.eval] <;> omega) (S2.out _ hbw2) (ints_one _) (by unfold maxLen; omega) (by omega) hbw2.size ?_
               intro v3 w3 ho3 hb3 _
               have hbw3 := hbw2.trans hb3))
          all_goals
            have HO := Lib.hid ho3
            have hl' : ints (l.take k ++ [r] ++ l.drop k) = [] ++ ints (l.take k) ++ [.int .i32 r] ++ ints (l.drop k) := by simp [ints]
            clear ho3
            go_wp2
            go_ret
            exact ins_done (B := wr.heap.size) (m := 0 + k + 1 + (n - k)) HI.out (by have h := HO.out; rw [← hl'] at h; exact h) (by have := HN.out; simp; omega) (fun x hx => by
              rcases (HI.out.m x).1 hx with e | e
              · rw [e]; exact ⟨hr0, hr1⟩
              · exact H.out.i x e) hbw3
    · have hkn : k = n := by omega
      have i1 : ¬ ((k : Int) < (n : Int)) := by omega
      have HI := Lib.hid (ins_new HS.out HLT.out (k := k) (r := r) (fun y hy => by have := (List.getElem?_eq_some_iff.1 hy).1; have := HN.out; omega))
      have hkc : k ≤ cap := by omega
      have HN2 := Lib.hid (HN.out)
      have S1 : Hid (∀ W, Below wr.heap.size wr W → Src W (some ⟨b, o, none⟩) k cap (ints (l.take k))) := Lib.hid fun W hb => src_take H.out hb (by have := HN.out; omega)
      have S2 : Hid (∀ W, Below wr.heap.size wr W → Src W (if cap = k then some ⟨b, o, none⟩ else some ⟨b, o + k, none⟩) (n - k) (cap - k) (ints (l.drop k))) := Lib.hid fun W hb => by rw [← HN.out]; exact src_drop H.out hb (by have := HN.out; omega)
      have HW0 : Hid (Below wr.heap.size wr wr) := Lib.hid (Below.refl _ _)
      have HBE : Hid (∀ o, Below wr.heap.size wr (wr.alloc o)) := Lib.hid fun o => below_new _ _
      have HBB : Hid (∀ o o', Below wr.heap.size wr ((wr.alloc o).alloc o')) := Lib.hid fun o o' => (below_new _ _).alloc (by simp) _
      have fC := own_empty wr wr.heap.size 21 (Nat.le_refl _)
      have fA := fC.alloc (.cells #[.int .i32 r] 21)
      have fB := own_empty (wr.alloc (.cells #[.int .i32 r] 21)) wr.heap.size 21 (by simp)
      rw [World.size_alloc] at fB
      have HA := Lib.hid fA
      have HB := Lib.hid fB
      have HCc := Lib.hid fC
      have rA := cell_one wr.heap.size.succ ((wr.alloc (.cells #[] 21)).alloc (.cells #[.int .i32 r] 21)) r (by have h := World.alloc_heap_new (wr.alloc (.cells #[] 21)) (.cells #[.int .i32 r] 21); rwa [World.size_alloc] at h)
      have rB := cell_one wr.heap.size ((wr.alloc (.cells #[.int .i32 r] 21)).alloc (.cells #[] 21)) r (by rw [Below.heap_alloc _ _ _ (by simp)]; exact World.alloc_heap_new _ _)
      have HrA := Lib.hid rA
      have HrB := Lib.hid rB
      clear fA fB fC rA rB
      go_wp2_with fail
      go_region_law (first
        | (refine step_append_src (w := ((wr.alloc (.cells #[] 21)).alloc (.cells #[.int .i32 r] 21)).drew) rfl (.tmp 33) (.tmp 36) 23 rfl wr.heap.size 21 i21 (.int .i32 0) 4 Try.underlying23 hi21 hz210 hz211 hz212 rfl (.slice (some ⟨wr.heap.size, 0, none⟩) 0 0) 0 [] (by simp [Act.eval] <;> omega) (show World.ownsRow (((wr.alloc (.cells #[] 21)).alloc (.cells #[.int .i32 r] 21)).drew) wr.heap.size 21 1 _ 0 [] from HA.out) (some ⟨b, o, none⟩) k cap (ints (l.take k)) (by simp [Act.eval] <;> omega) (S1.out _ (HBB.out _ _).drew) (ints_one _) (by unfold maxLen; omega) (by omega) (HBB.out _ _).size ?_
           intro v1 w1 ho1 hb1 hg1
           have hbw1 := (HBB.out _ _).drew.trans hb1
           have hR1 := src_far (W := ((wr.alloc (.cells #[] 21)).alloc (.cells #[.int .i32 r] 21)).drew) (B := wr.heap.size + 1) HrA.out hg1 (by simp [Value.ownBlock]))
        | (refine step_append_src (w := ((wr.alloc (.cells #[.int .i32 r] 21)).alloc (.cells #[] 21)).drew) rfl (.tmp 33) (.tmp 36) 23 rfl wr.heap.size 21 i21 (.int .i32 0) 4 Try.underlying23 hi21 hz210 hz211 hz212 rfl (.slice (some ⟨wr.heap.size + 1, 0, none⟩) 0 0) 0 [] (by simp [Act.eval] <;> omega) (show World.ownsRow (((wr.alloc (.cells #[.int .i32 r] 21)).alloc (.cells #[] 21)).drew) wr.heap.size 21 1 _ 0 [] from HB.out) (some ⟨b, o, none⟩) k cap (ints (l.take k)) (by simp [Act.eval] <;> omega) (S1.out _ (HBB.out _ _).drew) (ints_one _) (by unfold maxLen; omega) (by omega) (HBB.out _ _).size ?_
           intro v1 w1 ho1 hb1 hg1
           have hbw1 := (HBB.out _ _).drew.trans hb1
           have hR1 := src_far (W := ((wr.alloc (.cells #[.int .i32 r] 21)).alloc (.cells #[] 21)).drew) (B := wr.heap.size) HrB.out hg1 (by simp [Value.ownBlock]))
        | (refine step_append_src (w := (wr.alloc (.cells #[] 21)).drew) rfl (.tmp 33) (.tmp 36) 23 rfl wr.heap.size 21 i21 (.int .i32 0) 4 Try.underlying23 hi21 hz210 hz211 hz212 rfl (.slice (some ⟨wr.heap.size, 0, none⟩) 0 0) 0 [] (by simp [Act.eval] <;> omega) (show World.ownsRow ((wr.alloc (.cells #[] 21)).drew) wr.heap.size 21 1 _ 0 [] from HCc.out) (some ⟨b, o, none⟩) k cap (ints (l.take k)) (by simp [Act.eval] <;> omega) (S1.out _ (HBE.out _).drew) (ints_one _) (by unfold maxLen; omega) (by omega) (HBE.out _).size ?_
           intro v1 w1 ho1 hb1 hg1
           have hbw1 := (HBE.out _).drew.trans hb1)
        | (refine step_append_src (w := w1) rfl (.tmp 37) (.tmp 39) 23 rfl wr.heap.size 21 i21 (.int .i32 0) 4 Try.underlying23 hi21 hz210 hz211 hz212 rfl v1 (0 + k) ([] ++ ints (l.take k)) (by simp [Act.eval] <;> omega) ho1 _ 1 1 [.int .i32 r] (by simp [Act.eval] <;> omega) hR1 (ints_one [r]) (by unfold maxLen; omega) (by omega) hbw1.size ?_
           intro v2 w2 ho2 hb2 _
           have hbw2 := hbw1.trans hb2)
        | (refine step_append_src (w := w1.alloc (.cells #[.int .i32 r] 21)) rfl (.tmp 37) (.tmp 39) 23 rfl wr.heap.size 21 i21 (.int .i32 0) 4 Try.underlying23 hi21 hz210 hz211 hz212 rfl v1 (0 + k) ([] ++ ints (l.take k)) (by simp [Act.eval] <;> omega) (ho1.alloc _) (some ⟨w1.heap.size, 0, none⟩) 1 1 [.int .i32 r] (by simp [Act.eval] <;> omega) (cell_one w1.heap.size _ r (World.alloc_heap_new _ _)) (ints_one [r]) (by unfold maxLen; omega) (by omega) (hbw1.alloc hbw1.size _).size ?_
           intro v2 w2 ho2 hb2 _
           have hbw2 := (hbw1.alloc hbw1.size _).trans hb2)
        | (refine step_append_src (w := w2) rfl (.tmp 40) (.tmp 43) 23 rfl wr.heap.size 21 i21 (.int .i32 0) 4 Try.underlying23 hi21 hz210 hz211 hz212 rfl v2 (0 + k + 1) ([] ++ ints (l.take k) ++ [.int .i32 r]) (by simp [Act.eval] <;> omega) ho2 (if cap = k then some ⟨b, o, none⟩ else some ⟨b, o + k, none⟩) (n - k) (cap - k) (ints (l.drop k)) (by simp [Act.eval] <;> first | omega | (rw [hkn]; simp) | simp [hkn]) (S2.out _ hbw2) (ints_one _) (by unfold maxLen; omega) (by omega) hbw2.size ?_
           intro v3 w3 ho3 hb3 _
           have hbw3 := hbw2.trans hb3))
      all_goals
        have HO := Lib.hid ho3
        have hl' : ints (l.take k ++ [r] ++ l.drop k) = [] ++ ints (l.take k) ++ [.int .i32 r] ++ ints (l.drop k) := by simp [ints]
        clear ho3
        go_wp2
        all_goals
          go_ret
          exact ins_done (B := wr.heap.size) (m := 0 + k + 1 + (n - k)) HI.out (by have h := HO.out; rw [← hl'] at h; exact h) (by have := HN.out; simp; omega) (fun x hx => by
            rcases (HI.out.m x).1 hx with e | e
            · rw [e]; exact ⟨hr0, hr1⟩
            · exact H.out.i x e) hbw3
end Go.Proofs.Ytphhdkffnboboaa

namespace Go.Proofs.Ytphhdkffnboboaa
open Go.RowKit Go.Shelf
open Go.Lib

/-- Where something may change: 0, each Lo, what is behind each Hi, 1114112. -/
structure Pts (xs : List Rng) (l : List Int) : Prop where
  s : l.Pairwise (· < ·)
  m : ∀ x, x ∈ l ↔ x = 0 ∨ ∃ y ∈ xs, x = y.1 ∨ x = y.2 + 1
theorem pts_step {xs : List Rng} {k : Nat} {x : Rng} {l l1 l2 : List Int} (h : Pts (xs.take k) l) (hx : xs[k]? = some x) (h1 : Ins l x.1 l1) (h2 : Ins l1 (x.2 + 1) l2) : Pts (xs.take (k + 1)) l2 := by
  refine ⟨h2.s, fun y => ?_⟩
  rw [h2.m y, h1.m y, h.m y, List.take_add_one, hx]
  constructor
  · rintro (e | e | e | ⟨z, hz, e⟩)
    · exact .inr ⟨x, by simp, .inr e⟩
    · exact .inr ⟨x, by simp, .inl e⟩
    · exact .inl e
    · exact .inr ⟨z, by simp [hz], e⟩
  · rintro (e | ⟨z, hz, e⟩)
    · exact .inr (.inr (.inl e))
    · rcases List.mem_append.1 hz with hz | hz
      · exact .inr (.inr (.inr ⟨z, hz, e⟩))
      · simp at hz
        subst hz
        rcases e with e | e
        · exact .inr (.inl e)
        · exact .inl e
structure PtsAll (xs : List Rng) (l : List Int) : Prop where
  s : l.Pairwise (· < ·)
  m : ∀ x, x ∈ l ↔ x = 0 ∨ x = 1114112 ∨ ∃ y ∈ xs, x = y.1 ∨ x = y.2 + 1
/-- What points hands back. -/
def PtsPost (xs : List Rng) (w : World) (e : Ending) (w' : World) : Prop :=
  ∃ l A c, e = .returned (.slice A l.length c) ∧ PtsAll xs l ∧ l.length ≤ 2 * xs.length + 2 ∧ LS w' w'.heap.size A c l ∧ Below w.heap.size w w'

set_option maxHeartbeats 8000000 in
set_option maxRecDepth 100000 in
theorem points_any (A : Option Addr) (cap : Nat) (xs : List Rng) (w : World) (h : RS w w.heap.size A cap xs) (hmay : ∀ x ∈ xs, may x = true) (hl : xs.length ≤ 10000) :
    Calls Try.prog 79 #[.slice A xs.length cap] w (PtsPost xs w) := by
  have H := Lib.hid h
  have HM := Lib.hid hmay
  have HC := Lib.hid insert_any
  obtain ⟨n, hn⟩ : ∃ n, xs.length = n := ⟨_, rfl⟩
  have HN := Lib.hid hn
  rw [hn] at hl ⊢
  clear h hmay hn
  go_enter Try.func79, Try.ntmps79
  go_wp2
  go_loopw [3, 4] (fun v i wr => ∃ (k : Nat) (l : List Int) (A' : Option Addr) (c' : Nat), i = .int .i64 k ∧ k ≤ n ∧ v = .slice A' l.length c' ∧ Pts (xs.take k) l ∧ l.length ≤ 2 * k + 1 ∧ LS wr wr.heap.size A' c' l ∧ Below w.heap.size w wr) (fun _ i _ => n - (RowKit.intOf i).toNat)
  case atStart =>
    refine ⟨0, [0], some ⟨w.heap.size, 0, none⟩, 1, rfl, Nat.zero_le _, rfl, ⟨by simp, fun x => by simp⟩, by simp, ⟨by simp, by unfold maxLen; omega, (fun x hx => by simp at hx; omega), w.heap.size, 0, rfl, by simp, fun i x hx => ?_⟩, below_new _ _⟩
    cases i with
    | zero => simp at hx; subst hx; simp
    | succ i => simp at hx
  case round =>
    obtain ⟨k, l, A', c', rfl, hk, rfl, hP, hll, hLS, hb⟩ := hrel
    have HP := Lib.hid hP
    have HL := Lib.hid hLS
    have HLL := Lib.hid hll
    clear hP hLS hll
    by_cases hlt : k < n
    · obtain ⟨x, hx⟩ : ∃ x, xs[k]? = some x := ⟨xs[k]'(by have := HN.out; omega), List.getElem?_eq_getElem _⟩
      obtain ⟨b, o, rfl, hbl, hRg⟩ := H.out.2.2.2 (by intro e; rw [e] at hx; simp at hx)
      have q := fun W hW => (hRg.below hbl (show Below w.heap.size w W from hW)) k x hx
      have hm := (may_iff _).1 (HM.out x (List.mem_of_getElem? hx))
      have HX := Lib.hid hx
      clear hRg hx
      obtain ⟨lo, hi⟩ := x
      obtain ⟨m1, m2, m3⟩ := hm
      simp only at m1 m2 m3
      have HQ := Lib.hid q
      clear q
      have i1 : (k : Int) < (n : Int) := by omega
      obtain ⟨q1, q2⟩ := HQ.out wr hb
      have HBD := Lib.hid hb.drew
      have hlb : l.length ≤ 20001 := by have := HLL.out; omega
      have L1 := Lib.hid (HC.out A' c' l lo wr.drew (show LS wr.drew wr.drew.heap.size A' c' l from (HL.out.below (Below.refl _ _).drew)) HP.out.s (by omega) (by omega) (by omega))
      have hwr : IntKind.i32.wrap (hi + 1) = hi + 1 := by simp [IntKind.wrap, IntKind.bits, IntKind.signed]; omega
      go_wp2_with fail
      go_region_with (first
        | (go_at_call_of 82 A'
           refine L1.out.mono ?_
           rintro e w1 ⟨l1, A1, c1, rfl, hI1, hL1, hb1⟩
           have hbw1 := HBD.out.trans (hb1.mono HBD.out.size)
           obtain ⟨q3, q4⟩ := HQ.out w1 hbw1)
        | (go_at_call_of 82 A1
           try rw [hwr]
           refine (HC.out A1 c1 l1 (hi + 1) w1 hL1 hI1.s (by omega) (by omega) (by have := hI1.n; omega)).mono ?_
           rintro e w2 ⟨l2, A2, c2, rfl, hI2, hL2, hb2⟩
           have hbw2 := hbw1.trans (hb2.mono hbw1.size)))
      all_goals
        have HI := Lib.hid (pts_step HP.out HX.out hI1 hI2)
        have HNN := Lib.hid (show l2.length ≤ 2 * (k + 1) + 1 by have := hI1.n; have := hI2.n; have := HLL.out; omega)
        have HL2 := Lib.hid hL2
        clear hI1 hI2 hL1 hL2
        go_wp2
        go_roundw
        case rel => exact ⟨k + 1, l2, A2, c2, by go_num, by omega, rfl, HI.out, HNN.out, HL2.out, hbw2⟩
        case measure => simp [RowKit.intOf]; omega
    · have hkn : k = n := by omega
      have e : xs.take k = xs := by rw [hkn, ← HN.out, List.take_length]
      rw [e] at HP
      have L1 := Lib.hid (HC.out A' c' l 1114112 wr HL.out HP.out.s (by omega) (by omega) (by have := HLL.out; omega))
      subst hkn
      clear e
      go_wp2_with fail
      refine L1.out.mono ?_
      rintro e w1 ⟨l1, A1, c1, rfl, hI1, hL1, hb1⟩
      have hbw1 := hb.trans (hb1.mono hb.size)
      have HI := Lib.hid hI1
      have HL1 := Lib.hid hL1
      clear hI1 hL1
      go_wp2
      go_ret
      refine ⟨l1, A1, c1, rfl, ⟨HI.out.s, fun x => ?_⟩, by have := HI.out.n; have := HLL.out; have := HN.out; omega, HL1.out, hbw1⟩
      rw [HI.out.m x, HP.out.m x]
      constructor
      · rintro (e | e | e)
        · exact .inr (.inl e)
        · exact .inl e
        · exact .inr (.inr e)
      · rintro (e | e | e)
        · exact .inr (.inl e)
        · exact .inl e
        · exact .inr (.inr e)
end Go.Proofs.Ytphhdkffnboboaa

namespace Go.Proofs.Ytphhdkffnboboaa

/-- What is wanted of a number, by how. -/
def wantR (how : Int) (x y : Bool) : Bool := if how = 1 then x && y else if how = 2 then x && !y else if how = 3 then !x else x || y
def gatF (how : Int) (xs ys : List Rng) (r : Int) : Bool := wantR how (hasR xs r) (hasR ys r)

theorem pw_gap {l : List Int} (h : l.Pairwise (· < ·)) {i : Nat} {p q : Int} (hp : l[i]? = some p) (hq : l[i + 1]? = some q) : p < q ∧ ∀ x ∈ l, x ≤ p ∨ q ≤ x := by
  obtain ⟨h1, rfl⟩ := List.getElem?_eq_some_iff.1 hp
  obtain ⟨h2, rfl⟩ := List.getElem?_eq_some_iff.1 hq
  have H := List.pairwise_iff_getElem.1 h
  refine ⟨H i (i + 1) h1 h2 (by omega), fun x hx => ?_⟩
  obtain ⟨j, hj⟩ := List.mem_iff_getElem?.1 hx
  obtain ⟨h3, rfl⟩ := List.getElem?_eq_some_iff.1 hj
  rcases Nat.lt_trichotomy j i with c | c | c
  · exact .inl (Int.le_of_lt (H j i h3 h1 c))
  · subst c; exact .inl (Int.le_refl _)
  · rcases Nat.lt_or_ge (i + 1) j with c2 | c2
    · exact .inr (Int.le_of_lt (H (i + 1) j h2 h3 c2))
    · obtain rfl : j = i + 1 := by omega
      exact .inr (Int.le_refl _)
theorem pts_bounds {xs : List Rng} {l : List Int} (h : PtsAll xs l) (hm : ∀ x ∈ xs, may x = true) : ∀ x ∈ l, 0 ≤ x ∧ x ≤ 1114112 := by
  intro x hx
  rcases (h.m x).1 hx with e | e | ⟨y, hy, e⟩
  · omega
  · omega
  · have := (may_iff y).1 (hm y hy)
    omega
theorem pts_first {xs : List Rng} {l : List Int} (h : PtsAll xs l) (hm : ∀ x ∈ xs, may x = true) : l[0]? = some 0 := by
  obtain ⟨j, hj⟩ := List.mem_iff_getElem?.1 ((h.m 0).2 (.inl rfl))
  obtain ⟨h3, e⟩ := List.getElem?_eq_some_iff.1 hj
  have h0 : 0 < l.length := by omega
  rw [List.getElem?_eq_getElem h0]
  have hb := (pts_bounds h hm l[0] (List.getElem_mem h0)).1
  rcases Nat.eq_zero_or_pos j with c | c
  · subst c; rw [e]
  · have := List.pairwise_iff_getElem.1 h.s 0 j h0 h3 c
    omega
theorem pts_last {xs : List Rng} {l : List Int} (h : PtsAll xs l) (hm : ∀ x ∈ xs, may x = true) {i : Nat} {p : Int} (hp : l[i]? = some p) (hi : l.length ≤ i + 1) : p = 1114112 := by
  obtain ⟨j, hj⟩ := List.mem_iff_getElem?.1 ((h.m 1114112).2 (.inr (.inl rfl)))
  obtain ⟨h3, e⟩ := List.getElem?_eq_some_iff.1 hj
  obtain ⟨h1, e1⟩ := List.getElem?_eq_some_iff.1 hp
  have hb := (pts_bounds h hm l[i] (List.getElem_mem h1)).2
  rcases Nat.lt_or_ge j i with c | c
  · have := List.pairwise_iff_getElem.1 h.s j i h3 h1 c
    omega
  · obtain rfl : j = i := by omega
    rw [← e1, e]
theorem pts_len {xs : List Rng} {l : List Int} (h : PtsAll xs l) : 0 < l.length := by
  obtain ⟨j, hj⟩ := List.mem_iff_getElem?.1 ((h.m 0).2 (.inl rfl))
  have := (List.getElem?_eq_some_iff.1 hj).1
  omega
theorem has_const {zs : List Rng} {l : List Int} (hz : ∀ y ∈ zs, y.1 ∈ l ∧ y.2 + 1 ∈ l) {p q : Int} (hg : ∀ x ∈ l, x ≤ p ∨ q ≤ x) {r : Int} (h1 : p ≤ r) (h2 : r < q) : hasR zs r = hasR zs p := by
  rw [Bool.eq_iff_iff, hasR_iff, hasR_iff]
  constructor
  · rintro ⟨y, hy, a, b⟩
    obtain ⟨u, v⟩ := hz y hy
    have := hg _ u
    have := hg _ v
    exact ⟨y, hy, by omega, by omega⟩
  · rintro ⟨y, hy, a, b⟩
    obtain ⟨u, v⟩ := hz y hy
    have := hg _ u
    have := hg _ v
    exact ⟨y, hy, by omega, by omega⟩
theorem gat_const {xs ys : List Rng} {l : List Int} (how : Int) (h : PtsAll (xs ++ ys) l) {p q : Int} (hg : ∀ x ∈ l, x ≤ p ∨ q ≤ x) {r : Int} (h1 : p ≤ r) (h2 : r < q) : gatF how xs ys r = gatF how xs ys p := by
  have e : ∀ y ∈ xs ++ ys, y.1 ∈ l ∧ y.2 + 1 ∈ l := fun y hy => ⟨(h.m _).2 (.inr (.inr ⟨y, hy, .inl rfl⟩)), (h.m _).2 (.inr (.inr ⟨y, hy, .inr rfl⟩))⟩
  unfold gatF
  rw [has_const (fun y hy => e y (List.mem_append_left _ hy)) hg h1 h2, has_const (fun y hy => e y (List.mem_append_right _ hy)) hg h1 h2]

/-- What gather's loop holds: the right list of what is wanted below a place. -/
structure GatInv (f : Int → Bool) (out : List Rng) (N : Int) : Prop where
  r : right out = true
  m : ∀ r, hasR out r = true ↔ 0 ≤ r ∧ r < N ∧ f r = true
theorem gat_start (f : Int → Bool) : GatInv f [] 0 := ⟨rfl, fun r => by simp [hasR]; omega⟩
theorem gat_skip {f : Int → Bool} {out : List Rng} {p q : Int} (I : GatInv f out p) (hp : p < q) (hc : ∀ r, p ≤ r → r < q → f r = f p) (hf : f p = false) : GatInv f out q := by
  refine ⟨I.r, fun r => ?_⟩
  rw [I.m r]
  constructor
  · rintro ⟨a, b, c⟩; exact ⟨a, by omega, c⟩
  · rintro ⟨a, b, c⟩
    refine ⟨a, ?_, c⟩
    rcases Int.lt_or_le r p with d | d
    · exact d
    · rw [hc r d b, hf] at c; cases c
theorem gat_hi {f : Int → Bool} {out : List Rng} {p : Int} (I : GatInv f out p) {pre : List Rng} {z : Rng} (e : out = pre ++ [z]) : z.2 < p ∧ may z = true := by
  subst e
  have hz := (right_may (b := -1) I.r z (by simp)).1
  have h3 := (may_iff z).1 hz
  have := (I.m z.2).1 (by rw [hasR_append, Bool.or_eq_true]; exact .inr ((hasR_cons_iff z [] z.2).2 (.inl ⟨by omega, by omega⟩)))
  exact ⟨this.2.1, hz⟩
theorem gat_merge {f : Int → Bool} {pre : List Rng} {z : Rng} {p q : Int} (I : GatInv f (pre ++ [z]) p) (hp : p < q) (h0 : 0 ≤ p) (hq : q ≤ 1114112) (hc : ∀ r, p ≤ r → r < q → f r = f p) (hf : f p = true) (he : z.2 + 1 = p) : GatInv f (pre ++ [(z.1, q - 1)]) q := by
  have hz := (may_iff z).1 (gat_hi I rfl).2
  have J := join_merge pre z (p, q - 1) I.r ((may_iff _).2 ⟨by dsimp only; omega, by dsimp only; omega, by dsimp only; omega⟩) (by dsimp only; omega) (by dsimp only; omega)
  have em : max z.2 (p, q - 1).2 = q - 1 := by dsimp only; omega
  rw [em] at J
  refine ⟨J.1, fun r => ?_⟩
  rw [J.2 r, Bool.or_eq_true, I.m r]
  simp only [Bool.and_eq_true, decide_eq_true_eq]
  constructor
  · rintro (⟨a, b, c⟩ | ⟨a, b⟩)
    · exact ⟨a, by omega, c⟩
    · exact ⟨by omega, by omega, by rw [hc r a (by omega)]; exact hf⟩
  · rintro ⟨a, b, c⟩
    rcases Int.lt_or_le r p with d | d
    · exact .inl ⟨a, d, c⟩
    · exact .inr ⟨d, by omega⟩
theorem gat_push {f : Int → Bool} {out : List Rng} {p q : Int} (I : GatInv f out p) (hp : p < q) (h0 : 0 ≤ p) (hq : q ≤ 1114112) (hc : ∀ r, p ≤ r → r < q → f r = f p) (hf : f p = true) (he : hiOf (-1) out < p) : GatInv f (out ++ [(p, q - 1)]) q := by
  have J := join_push out (p, q - 1) I.r ((may_iff _).2 ⟨by dsimp only; omega, by dsimp only; omega, by dsimp only; omega⟩) he
  refine ⟨J.1, fun r => ?_⟩
  rw [J.2 r, Bool.or_eq_true, I.m r]
  simp only [Bool.and_eq_true, decide_eq_true_eq]
  constructor
  · rintro (⟨a, b, c⟩ | ⟨a, b⟩)
    · exact ⟨a, by omega, c⟩
    · exact ⟨by omega, by omega, by rw [hc r a (by omega)]; exact hf⟩
  · rintro ⟨a, b, c⟩
    rcases Int.lt_or_le r p with d | d
    · exact .inl ⟨a, d, c⟩
    · exact .inr ⟨d, by omega⟩
theorem gat_push1 {f : Int → Bool} {pre : List Rng} {z : Rng} {p q : Int} (I : GatInv f (pre ++ [z]) p) (hp : p < q) (h0 : 0 ≤ p) (hq : q ≤ 1114112) (hc : ∀ r, p ≤ r → r < q → f r = f p) (hf : f p = true) (he : ¬ z.2 + 1 = p) : GatInv f (pre ++ [z] ++ [(p, q - 1)]) q :=
  gat_push I hp h0 hq hc hf (by have := (gat_hi I rfl).1; rw [hiOf_snoc]; omega)
theorem gat_push0 {f : Int → Bool} {p q : Int} (I : GatInv f [] p) (hp : p < q) (h0 : 0 ≤ p) (hq : q ≤ 1114112) (hc : ∀ r, p ≤ r → r < q → f r = f p) (hf : f p = true) : GatInv f ([] ++ [(p, q - 1)]) q :=
  gat_push I hp h0 hq hc hf (by simp [hiOf]; omega)
end Go.Proofs.Ytphhdkffnboboaa

namespace Go.Proofs.Ytphhdkffnboboaa
open Go.RowKit Go.Shelf
open Go.Lib

theorem own_empty2 (w : World) (base e : Nat) (hb : base ≤ w.heap.size) : (w.alloc (.cells #[] e)).ownsRow base e 2 (.slice (some ⟨w.heap.size, 0, none⟩) 0 0) 0 (cells2 []) :=
  ⟨rfl, .inr ⟨w.heap.size, 0, #[], rfl, hb, World.alloc_heap_new w _, Nat.le_refl _, Nat.zero_le _, rfl, rfl⟩⟩
theorem may_i32 {xs : List Rng} (h : ∀ x ∈ xs, may x = true) : ∀ x ∈ xs, I32 x := fun x hx => by
  have := (may_iff _).1 (h x hx)
  exact ⟨by omega, by omega, by omega, by omega⟩
/-- What gather hands back: the right list of what is wanted. -/
def GatPost (how : Int) (xs ys : List Rng) (w : World) (e : Ending) (w' : World) : Prop :=
  ∃ out : List Rng, right out = true ∧ (∀ r, hasR out r = true ↔ 0 ≤ r ∧ r < 1114112 ∧ gatF how xs ys r = true) ∧ out.length ≤ 2 * (xs.length + ys.length) + 2 ∧ HoldsR w.heap.size 40 out w e w'
end Go.Proofs.Ytphhdkffnboboaa

