/-
  Contracts: (*trie.Trie).Classes.
  Two arrays of numbers are equal just if they are cell by cell.
  Contracts: slices.Equal of blocks; trie.Same.
-/
import Derived.Deep.MidRow
import Derived.Laws.Rows
import Derived.Test.YtphhdkffnboboaaPai
import Derived.Laws.StructEq
import Derived.Deep.RegionHeld3
namespace Go.Proofs.Ytphhdkffnboboaa
open Go.RowKit Go.Shelf
open Go.Lib Go.Great Go.Maps

def Z93 : Array Value := (List.replicate 256 (Value.bool false)).toArray
/-- A row of 256 flags. -/
def Had (w : World) (H : Nat) (hd : Nat → Bool) : Prop := ∃ cs : Array Value, w.heap[H]? = some (.cells cs 93 (0, 0)) ∧ cs.size = 256 ∧ ∀ v, v < 256 → cs[v]? = some (.bool (hd v))
theorem Had.lt {w : World} {H : Nat} {hd : Nat → Bool} (h : Had w H hd) : H < w.heap.size := by obtain ⟨_, h, _⟩ := h; exact (Array.getElem?_eq_some_iff.1 h).1
theorem Had.kept {w w' : World} {H : Nat} {hd : Nat → Bool} (h : Had w H hd) (e : w'.heap[H]? = w.heap[H]?) : Had w' H hd := by obtain ⟨cs, h1, h2, h3⟩ := h; exact ⟨cs, by rw [e]; exact h1, h2, h3⟩
theorem Had.below {w w' : World} {H : Nat} {hd : Nat → Bool} (h : Had w H hd) (hb : Below w.heap.size w w') : Had w' H hd := h.kept (hb.block H h.lt)
theorem Had.cell {w : World} {H : Nat} {hd : Nat → Bool} (h : Had w H hd) {v : Nat} (hv : v < 256) : w.cell? ⟨H, v, none⟩ = some (.bool (hd v)) ∧ w.frozen? ⟨H, v, none⟩ = false := by
  obtain ⟨cs, h1, h2, h3⟩ := h
  refine ⟨by rw [cell_of_row _ _ v _ _ _ h1]; exact h3 v hv, ?_⟩
  simp [World.frozen?, h1]
theorem Z93_size : Z93.size = 256 := by unfold Z93; rw [List.size_toArray, List.length_replicate]
theorem Z93_get (v : Nat) (hv : v < 256) : Z93[v]? = some (.bool false) := by
  unfold Z93
  rw [List.getElem?_toArray, List.getElem?_replicate, if_pos hv]
theorem Had.zero (w : World) : Had (w.alloc (.cells Z93 93)) w.heap.size (fun _ => false) := ⟨Z93, heap_alloc_new _ _, Z93_size, fun v hv => Z93_get v hv⟩
theorem Had.set {w : World} {H : Nat} {hd : Nat → Bool} (h : Had w H hd) {a : Nat} (ha : a < 256) : Had (w.setCell ⟨H, a, none⟩ (.bool true)) H (fun v => hd v || v == a) := by
  obtain ⟨cs, h1, h2, h3⟩ := h
  refine ⟨cs.setIfInBounds a (.bool true), heap_setCell_same w H a cs 93 _ h1, by simpa using h2, fun v hv => ?_⟩
  rw [Array.getElem?_setIfInBounds]
  show _ = some (Value.bool (hd v || v == a))
  by_cases e : a = v
  · subst e; simp [h2, ha]
  · rw [if_neg e, h3 v hv]
    have : (v == a) = false := by simpa using fun e' => e e'.symm
    rw [this, Bool.or_false]
theorem size93 : (Try.prog.info? 93).map (·.size) = some 256 := by kernel_rfl
theorem dd_lt (F : Nat → Int) : ∀ (i k : Nat), k ∈ dd F i → k < i := by
  intro i
  induction i with
  | zero => intro k h; simp [dd] at h
  | succ i ih =>
    intro k h
    rw [dd_succ] at h
    split at h
    · have := ih k h; omega
    · rcases List.mem_append.1 h with h | h
      · have := ih k h; omega
      · simp at h; omega
/-- Which classes there are within the first k unlike blocks. -/
def InTo (G : Nat → Int) (k v : Nat) : Prop := ∃ i kk, i < k ∧ (dd G 4352)[i]? = some kk ∧ ∃ q, q < 256 ∧ G (256 * kk + q) = (v : Int)
theorem InTo.succ {G : Nat → Int} {k kk v : Nat} (h : (dd G 4352)[k]? = some kk) : InTo G (k + 1) v ↔ InTo G k v ∨ ∃ q, q < 256 ∧ G (256 * kk + q) = (v : Int) := by
  constructor
  · rintro ⟨i, k', hi, hk', hq⟩
    by_cases e : i = k
    · subst e
      rw [h] at hk'
      injection hk' with hk'
      subst hk'
      exact .inr hq
    · exact .inl ⟨i, k', by omega, hk', hq⟩
  · rintro (⟨i, k', hi, hk', hq⟩ | hq)
    · exact ⟨i, k', by omega, hk', hq⟩
    · exact ⟨k, kk, by omega, h, hq⟩
theorem InTo.all {G : Nat → Int} {v : Nat} : InTo G (dd G 4352).length v ↔ ∃ r, r < 1114112 ∧ G r = (v : Int) := by
  constructor
  · rintro ⟨i, kk, hi, hk, q, hq, e⟩
    have hlt : kk < 4352 := dd_lt G 4352 kk (List.mem_of_getElem? hk)
    exact ⟨256 * kk + q, by omega, e⟩
  · rintro ⟨r, hr, e⟩
    obtain ⟨kk, hkk, hs⟩ := rf_at G 4352 (r / 256) (dd_has G 4352 (r / 256) (by omega))
    refine ⟨rf G 4352 (r / 256), kk, (List.getElem?_eq_some_iff.1 hkk).1, hkk, r % 256, by omega, ?_⟩
    unfold sameB at hs
    rw [List.all_eq_true] at hs
    have := hs (r % 256) (List.mem_range.2 (by omega))
    have h2 : 256 * (r / 256) + r % 256 = r := by omega
    rw [h2] at this
    rw [← e]
    simpa using this
def intsL (l : List Nat) : List Value := l.map fun (v : Nat) => Value.int .i64 (v : Int)
/-- What Classes hands back. -/
def ClsPost (G : Nat → Int) (w : World) (e : Ending) (w' : World) : Prop := ∃ (v : Value) (p : Nat → Bool), e = .returned v ∧ w'.ownsRow w.heap.size 3 1 v ((List.range 256).filter p).length (intsL ((List.range 256).filter p)) ∧ (∀ c, c < 256 → (p c = true ↔ ∃ r, r < 1114112 ∧ G r = (c : Int))) ∧ Below w.heap.size w w'
theorem Try.info3 : (Try.prog.info? 3).map (fun i => (i.zero, i.size, i.bytes)) = some (some (.int .i64 0), 1, 8) := by kernel_rfl
theorem filt_succ (p : Nat → Bool) (t : Nat) : (List.range (t + 1)).filter p = (List.range t).filter p ++ (if p t then [t] else []) := by
  rw [List.range_succ, List.filter_append]
  simp [List.filter_cons]
theorem filt_len (p : Nat → Bool) (t : Nat) : ((List.range t).filter p).length ≤ t := by
  have := List.length_filter_le p (List.range t)
  simpa using this

set_option maxHeartbeats 4000000 in
set_option maxRecDepth 100000 in
theorem tclasses_any (T : Nat) (o : Int) (G : Nat → Int) (w : World) (h : Tr w T o G) (hG : U8 G) :
    Calls Try.prog 25 #[.pointer (some ⟨T, 0, none⟩)] w (ClsPost G w) := by
  obtain ⟨b, cap, p1, p2, p3, p4, p5, p6, p7, p8⟩ := h.parts
  have HP := Lib.hid (And.intro p5 (And.intro p7 p8))
  have HG := Lib.hid hG
  have hlen0 : 0 < (dd G 4352).length := Nat.lt_of_le_of_lt (Nat.zero_le _) (p4 0 (by omega))
  have HALL := Lib.hid (fun v => @InTo.all G v)
  obtain ⟨n, hn⟩ : ∃ n, (dd G 4352).length = n := ⟨_, rfl⟩
  have HN := Lib.hid hn
  rw [hn] at p1 p6 hlen0 HALL
  have hb0 := Lib.hid ((Below.refl w.heap.size w).alloc (Nat.le_refl _) (.cells Z93 93))
  have hp1 := (below_new w (.cells Z93 93)).cell (p := ⟨T, 4353, none⟩) p7
  rw [p1] at hp1
  clear h hG p2 p3 p4 p5 hn
  go_enter Try.func25, Try.ntmps25
  go_wp2_with (first
    | (refine wpList_allocTo rfl (some 3) rfl (.pointer (some ⟨w.heap.size, 0, none⟩)) (.cells Z93 93) (by as_aux_lemma => kernel_rfl) ?_)
    | fail)
  trace "L1"
  go_loopw [18] (fun i wr => ∃ (k : Nat) (hd : Nat → Bool), i = .int .i64 (k : Int) ∧ k ≤ n ∧ Had wr w.heap.size hd ∧ (∀ v, v < 256 → (hd v = true ↔ InTo G k v)) ∧ Below w.heap.size w wr) (fun i _ => n - (RowKit.intOf i).toNat)
  case atStart => exact ⟨0, _, rfl, Nat.zero_le _, Had.zero w, fun v _ => ⟨(fun h => by cases h), fun h => by obtain ⟨i, _, hi, _⟩ := h; exact absurd hi (Nat.not_lt_zero _)⟩, hb0.out⟩
  case round =>
    obtain ⟨k, hd, rfl, hk, hH, hI, hb⟩ := hrel
    by_cases hlt : k < n
    · have i1 : (k : Int) < (n : Int) := by omega
      obtain ⟨kk, hkk⟩ : ∃ kk, (dd G 4352)[k]? = some kk := ⟨(dd G 4352)[k]'(by rw [HN.out]; exact hlt), List.getElem?_eq_getElem _⟩
      have hrg := Lib.hid (rangeAt_below (HP.out.1 k kk hkk) HP.out.2.2 hb)
      have HH := Lib.hid (And.intro hH (And.intro hI (And.intro hb hkk)))
      clear hH hI hb hkk
      go_wp2_with (first
        | (refine wpList_load_mid rfl 84 (.tmp 20) rfl b (k * 256) rfl (blc G kk) (.array 256 5) hrg.out Try.underlying84 rfl (by rw [blc_len]; exact size84) ?_)
        | (refine wpList_allocTo rfl (some 5) rfl (.pointer (some ⟨wr.heap.size, 0, none⟩)) (.cells Z84 84) (by as_aux_lemma => kernel_rfl) ?_)
        | (refine wpList_store84 rfl (.tmp 5) (.tmp 21) rfl rfl (blc G kk) (blc_len G kk) (blc_one G kk) rfl rfl ?_)
        | fail)
      intro W hWN hWb hWs
      have hH := HH.out.1.below hWb
      have hbW := HH.out.2.2.1.trans (hWb.mono HH.out.2.2.1.size)
      have HA := Lib.hid (And.intro hH (And.intro HH.out.2.1 (And.intro hbW HH.out.2.2.2)))
      have HW := Lib.hid hWN
      have HX := Lib.hid (fun j hj w => blc_index G kk j hj w)
      clear hH hbW HH hWb hrg hWN
      generalize wr.heap.size = N at *
      go_wp2_with (first
        | (refine wpList_load_row rfl 84 (.tmp 5) rfl N rfl 84 (blc G kk).toArray (0, 0) (.array 256 5) HW.out Try.underlying84 rfl (by rw [size84]; simp [blc_len]) ?_)
        | fail)
      generalize (blc G kk).toArray = BL at *
      trace "L2"
      go_loopw [23] (fun i wr => ∃ (j : Nat) (hd : Nat → Bool), i = .int .i64 (j : Int) ∧ j ≤ 256 ∧ Had wr w.heap.size hd ∧ (∀ v, v < 256 → (hd v = true ↔ InTo G k v ∨ ∃ q, q < j ∧ G (256 * kk + q) = (v : Int))) ∧ Below w.heap.size w wr) (fun i _ => 256 - (RowKit.intOf i).toNat)
      case atStart => exact ⟨0, hd, rfl, Nat.zero_le _, HA.out.1, fun v hv => ⟨fun h => .inl ((HA.out.2.1 v hv).1 h), fun h => by rcases h with h | ⟨q, hq, _⟩; exact (HA.out.2.1 v hv).2 h; exact absurd hq (Nat.not_lt_zero _)⟩, HA.out.2.2.1⟩
      case round =>
        obtain ⟨wo, rfl⟩ : ∃ wo : World, wo = wr := ⟨_, rfl⟩
        obtain ⟨j, hd2, rfl, hj, hH, hI, hb⟩ := hrel
        by_cases hlj : j < 256
        · have i2 : (j : Int) < 256 := by omega
          have hx := HX.out j hlj
          have hu := HG.out (256 * kk + j)
          obtain ⟨a, ha⟩ := Int.eq_ofNat_of_zero_le hu.1
          have HGA := Lib.hid ha
          rw [ha] at hx hu
          have ha256 : a < 256 := by omega
          have ha2 : (a : Int) < 256 := by omega
          have ha0 : (0 : Int) ≤ (a : Int) := by omega
          obtain ⟨q1, q2⟩ := hH.cell ha256
          have hs := hH.set ha256
          have hbs := hb.setCell (p := ⟨w.heap.size, a, none⟩) (Nat.le_refl _) (.bool true)
          have hend : ∃ (j_1 : Nat) (hd : Nat → Bool), Value.int .i64 ((j : Int) + 1) = .int .i64 (j_1 : Int) ∧ j_1 ≤ 256 ∧ Had (wo.setCell ⟨w.heap.size, a, none⟩ (.bool true)) w.heap.size hd ∧ (∀ v, v < 256 → (hd v = true ↔ InTo G k v ∨ ∃ q, q < j_1 ∧ G (256 * kk + q) = (v : Int))) ∧ Below w.heap.size w (wo.setCell ⟨w.heap.size, a, none⟩ (.bool true)) := by
            refine ⟨j + 1, _, by simp, by omega, hs, fun v hv => ?_, hbs⟩
            rw [Bool.or_eq_true, hI v hv, beq_iff_eq, or_assoc]
            refine or_congr Iff.rfl ?_
            constructor
            · rintro (⟨q, hq, e⟩ | e)
              · exact ⟨q, by omega, e⟩
              · exact ⟨j, by omega, by rw [HGA.out, e]⟩
            · rintro ⟨q, hq, e⟩
              by_cases c : q = j
              · subst c
                right
                rw [HGA.out] at e
                omega
              · exact .inl ⟨q, by omega, e⟩
          have HEND := Lib.hid hend
          generalize hd2 a = ov at *
          clear hend hH hI hb hs hbs ha hu
          trace "L3"
          go_wp2_with fail
          go_roundw
          case rel => exact HEND.out
          case measure => simp [RowKit.intOf]; omega
        · have hj2 : j = 256 := by omega
          subst hj2
          have d2 : ¬ ((256 : Nat) : Int) < 256 := by omega
          have hend : ∃ (k_1 : Nat) (hd : Nat → Bool), Value.int .i64 ((k : Int) + 1) = .int .i64 (k_1 : Int) ∧ k_1 ≤ n ∧ Had wo w.heap.size hd ∧ (∀ v, v < 256 → (hd v = true ↔ InTo G k_1 v)) ∧ Below w.heap.size w wo :=
            ⟨k + 1, hd2, by simp, by omega, hH, fun v hv => (hI v hv).trans (InTo.succ HA.out.2.2.2).symm, hb⟩
          have HEND := Lib.hid hend
          clear hend hH hI hb
          trace "L4"
          go_wp2_with fail
          go_roundw
          case rel => exact HEND.out
          case measure => simp [RowKit.intOf]; omega
    · have hkn : k = n := by omega
      subst hkn
      have d1 : ¬ (k : Int) < (k : Int) := by omega
      obtain ⟨CS, hCS, hCz, hCg⟩ := hH
      have HCI : Hid (∀ t : Nat, t < 256 → ∀ w, (Instr.index 93 (.agg CS) (.int .i64 (t : Int))).run Try.prog w = .ok (.bool (hd t)) w) := Lib.hid (fun t ht w => by
        have hE := hCg t ht
        simp [Instr.index, asIntOf, run_underlying Try.underlying93, part, Try.isAgg4, Try.sizeOf4, Sem.run_bind, Result.andThen, hE, go_sem]
        omega)
      have HCS := Lib.hid hCS
      have HPP : Hid (∀ c, c < 256 → (hd c = true ↔ ∃ r, r < 1114112 ∧ G r = (c : Int))) := Lib.hid (fun c hc => (hI c hc).trans (HALL.out c))
      have HB := Lib.hid hb
      have HZ := Lib.hid (show (Try.prog.info? 93).map (·.size) = some CS.size by rw [size93, hCz])
      clear hCS hCz hCg hI hb
      trace "L5"
      go_wp2_with (first
        | (refine wpList_load_row rfl 93 (.tmp 3) rfl w.heap.size rfl 93 CS (0, 0) (.array 256 4) HCS.out Try.underlying93 rfl HZ.out ?_)
        | fail)
      obtain ⟨i3, hi3, hzz⟩ := Option.map_eq_some_iff.1 Try.info3
      simp only [Prod.mk.injEq] at hzz
      have HI3 := Lib.hid (And.intro hi3 hzz)
      clear hi3 hzz
      obtain ⟨X, rfl⟩ : ∃ X : World, X = wr := ⟨_, rfl⟩
      go_loopw [8, 31] (fun v i wr => ∃ t : Nat, i = .int .i64 (t : Int) ∧ t ≤ 256 ∧ wr.ownsRow X.heap.size 3 1 v ((List.range t).filter hd).length (intsL ((List.range t).filter hd)) ∧ Below X.heap.size X wr) (fun _ i _ => 256 - (RowKit.intOf i).toNat)
      case atStart => exact ⟨0, rfl, Nat.zero_le _, by simp [intsL]; exact World.ownsRow_nil _ _ _ _, Below.refl _ _⟩
      case round =>
        obtain ⟨t, rfl, ht, hown, hb⟩ := hrel
        by_cases hlt : t < 256
        · have i2 : (t : Int) < 256 := by omega
          have hx := HCI.out t hlt
          have hfs := filt_succ hd t
          have hfl := filt_len hd t
          generalize hql : (List.range t).filter hd = ql at *
          cases hq : hd t with
          | true =>
            rw [hq] at hx hfs
            simp only [if_true] at hfs
            have HO := Lib.hid (hown.alloc (.cells #[.int .i64 (t : Int)] 3))
            have HB2 := Lib.hid (hb.alloc hb.size (.cells #[.int .i64 (t : Int)] 3))
            have HF := Lib.hid hfs
            have NB := Lib.hid (World.news_of_block (heap_alloc_new wr (.cells #[.int .i64 (t : Int)] 3)))
            clear hown hb hql hfs hq
            trace "L6"
            go_wp2_with (at_builtin; refine wpList_append_lies _ (by rfl) (.tmp 36) (.tmp 38) 49 (by rfl) X.heap.size 3 i3 _ 1 8 Try.underlying49 HI3.out.1 HI3.out.2.1 HI3.out.2.2.1 HI3.out.2.2.2 rfl (by omega) _ ql.length (intsL ql) (by rfl) HO.out _ 1 1 [.int .i64 (t : Int)] (by rfl) (by rfl) NB.out (by simp [Value.oneCell']) (by omega) (by unfold maxLen; omega) (by omega) HB2.out.size (wr.heap.size + 1) (by simp) ?_)
            intro g1 cap1 w7 hown7 hgrow7 hat7 hlt7
            have hB7 := HB2.out.grown hgrow7 (by have := HB2.out.size; simp at *; omega) (fun k e' => (own_block_lt HO.out k e').1)
            have hend : ∃ t_1 : Nat, Value.int .i64 ((t : Int) + 1) = .int .i64 (t_1 : Int) ∧ t_1 ≤ 256 ∧ w7.ownsRow X.heap.size 3 1 (.slice (some ⟨g1, 0, none⟩) (ql.length + 1) cap1) ((List.range t_1).filter hd).length (intsL ((List.range t_1).filter hd)) ∧ Below X.heap.size X w7 := by
              refine ⟨t + 1, by simp, by omega, ?_, hB7⟩
              rw [HF.out]
              simpa [intsL] using hown7
            have HEND := Lib.hid hend
            clear hend hB7 hown7 hgrow7 hat7 hlt7
            go_wp2_with fail
            go_roundw
            case rel => exact HEND.out
            case measure => simp [RowKit.intOf]; omega
          | false =>
            rw [hq] at hx hfs
            simp only [Bool.false_eq_true, if_false, List.append_nil] at hfs
            have hend : ∃ t_1 : Nat, Value.int .i64 ((t : Int) + 1) = .int .i64 (t_1 : Int) ∧ t_1 ≤ 256 ∧ wr.ownsRow X.heap.size 3 1 u8 ((List.range t_1).filter hd).length (intsL ((List.range t_1).filter hd)) ∧ Below X.heap.size X wr :=
              ⟨t + 1, by simp, by omega, by rw [hfs]; exact hown, hb⟩
            have HEND := Lib.hid hend
            clear hend hown hb hql hfs hq
            trace "L7"
            go_wp2_with fail
            go_roundw
            case rel => exact HEND.out
            case measure => simp [RowKit.intOf]; omega
        · have ht2 : t = 256 := by omega
          subst ht2
          have d2 : ¬ ((256 : Nat) : Int) < 256 := by omega
          have HO := Lib.hid (And.intro hown hb)
          clear hown hb
          trace "L8"
          go_wp2_with fail
          go_ret
          exact ⟨_, hd, rfl, HO.out.1.mono HB.out.size, HPP.out, HB.out.trans (HO.out.2.mono HB.out.size)⟩
end Go.Proofs.Ytphhdkffnboboaa

namespace Go.Proofs.Ytphhdkffnboboaa
open Go.RowKit Go.Shelf
open Go.Lib Go.Great Go.Maps

theorem run_equalIn_arr {P : Program} (w : World) (d : Nat) (t : TypeId) (len : Nat) (elem : TypeId) (k : IntKind) (xs ys : Array Value) (f g : Nat → Int) (hu : P.underlying t = some (.array len elem))
    (hpart : ∀ (zs : Array Value) (i : Nat) (w : World) v, zs[i]? = some v → (part elem zs i).run P w = .ok v w) (hs : ∀ w, (sizeOf elem).run P w = .ok 1 w) (he : P.underlying elem = some (.int k))
    (hx : ∀ i, i < len → xs[i]? = some (.int k (f i))) (hy : ∀ i, i < len → ys[i]? = some (.int k (g i))) :
    (Op.equalIn (d + 2) t (.agg xs) (.agg ys)).run P w = .ok ((List.range' 0 len).all fun i => f i == g i) w := by
  rw [Op.equalIn]
  simp only [Sem.run_bind, run_underlying hu, Result.andThen_ok, hs]
  rw [Std.Legacy.Range.forIn_eq_forIn_range']
  simp only [Std.Legacy.Range.size, Nat.sub_zero, Nat.add_sub_cancel, Nat.div_one, Nat.mul_one]
  have key : ∀ (n s : Nat), s + n ≤ len → (Sem.run P
          (forIn (List.range' s n) ((none, ()) : Option Bool × Unit) fun i __s => do
            let __do_lift ← part elem xs i
            let __do_lift_1 ← part elem ys i
            let __do_lift ← Op.equalIn (d + 1) elem __do_lift __do_lift_1
            if (!__do_lift) = true then pure (ForInStep.done (some false, ())) else pure (ForInStep.yield (none, ())))
          w) = .ok (if ((List.range' s n).all fun i => f i == g i) = true then (none, ()) else (some false, ())) w := by
    intro n
    induction n with
    | zero =>
      intro s _
      simp
    | succ n ih =>
      intro s hs'
      rw [List.range'_succ, List.forIn_cons]
      simp only [Sem.run_bind, hpart xs s w _ (hx s (by omega)), hpart ys s w _ (hy s (by omega)), Result.andThen_ok]
      rw [run_equalIn_int w d elem k k (f s) (g s) he]
      simp only [Result.andThen_ok]
      by_cases c : f s = g s
      · have e : (f s == g s) = true := by simpa using c
        rw [e]
        simp only [Bool.not_true, Bool.false_eq_true, if_false, Sem.run_pure, Result.andThen_ok]
        rw [ih (s + 1) (by omega), List.all_cons, e, Bool.true_and]
      · have e : (f s == g s) = false := by simpa using c
        rw [e]
        simp only [Bool.not_false, if_true, Sem.run_pure, Result.andThen_ok]
        rw [List.all_cons, e, Bool.false_and]
        rfl
  rw [key len 0 (by omega)]
  simp only [Result.andThen_ok]
  cases (List.range' 0 len).all fun i => f i == g i <;> rfl
theorem part_int (t : TypeId) (h1 : ∀ w, (isAgg t).run Try.prog w = .ok false w) (zs : Array Value) (i : Nat) (w : World) (v : Value) (h : zs[i]? = some v) : (part t zs i).run Try.prog w = .ok v w := by
  simp [part, h1, Sem.run_bind, Result.andThen, h, go_sem]
end Go.Proofs.Ytphhdkffnboboaa

namespace Go.Proofs.Ytphhdkffnboboaa
open Go.RowKit Go.Shelf
open Go.Lib Go.Great Go.Maps

def eqBlk (F : Nat → Int) (k : Nat) (G : Nat → Int) (k' : Nat) : Bool := (List.range' 0 256).all fun j => F (256 * k + j) == G (256 * k' + j)
theorem blk_equal (F : Nat → Int) (k : Nat) (G : Nat → Int) (k' : Nat) (w : World) : (Op.equalIn 10000 84 (.agg (blc F k).toArray) (.agg (blc G k').toArray)).run Try.prog w = .ok (eqBlk F k G k') w :=
  run_equalIn_arr (P := Try.prog) w 9998 84 256 5 .u8 _ _ (fun j => F (256 * k + j)) (fun j => G (256 * k' + j)) Try.underlying84 (fun zs i w v h => part_int 5 (fun w => by simp [Try.isAgg5, go_sem]) zs i w v h) (fun w => by simp [Try.sizeOf5, go_sem]) Try.underlying5
    (fun i hi => by have := blc_get F k i hi; simpa using this) (fun i hi => by have := blc_get G k' i hi; simpa using this)
theorem blk_neq (F : Nat → Int) (k : Nat) (G : Nat → Int) (k' : Nat) (w : World) : (binOp .neq 84 (.agg (blc F k).toArray) (.agg (blc G k').toArray)).run Try.prog w = .ok (.bool (!eqBlk F k G k')) w := by
  rw [run_neq_struct, blk_equal]
  rfl
def eqRef (F G : Nat → Int) : Bool := (List.range' 0 4352).all fun t => ((rf F 4352 t : Nat) : Int) == ((rf G 4352 t : Nat) : Int)
theorem refs_eql (F G : Nat → Int) (w : World) : (binOp .eql 78 (.agg (refsL F).toArray) (.agg (refsL G).toArray)).run Try.prog w = .ok (.bool (eqRef F G)) w := by
  rw [run_eql_struct]
  have h : (Op.equalIn 10000 78 (.agg (refsL F).toArray) (.agg (refsL G).toArray)).run Try.prog w = .ok (eqRef F G) w :=
    run_equalIn_arr (P := Try.prog) w 9998 78 4352 3 .i64 _ _ (fun t => ((rf F 4352 t : Nat) : Int)) (fun t => ((rf G 4352 t : Nat) : Int)) Try.underlying78 (fun zs i w v h => part_int 3 (fun w => by simp [Try.isAgg3, go_sem]) zs i w v h) (fun w => by simp [Try.sizeOf3, go_sem]) Try.underlying3
    (fun i hi => by have := refs_get F i hi; simpa using this) (fun i hi => by have := refs_get G i hi; simpa using this)
  rw [h]
  rfl
theorem guard84 : Try.prog.eqGuardType Try.prog.depth 84 = false := by kernel_rfl
theorem guard78 : Try.prog.eqGuardType Try.prog.depth 78 = false := by kernel_rfl

def eqU (F G : Nat → Int) (n : Nat) : Bool := (List.range n).all fun i => eqBlk F ((dd F 4352).getD i 0) G ((dd G 4352).getD i 0)
theorem eqU_succ (F G : Nat → Int) (n : Nat) : eqU F G (n + 1) = (eqU F G n && eqBlk F ((dd F 4352).getD n 0) G ((dd G 4352).getD n 0)) := by
  unfold eqU
  rw [List.range_succ, List.all_append]
  simp
theorem eqU_no (F G : Nat → Int) (n i : Nat) (hi : i < n) (h : eqBlk F ((dd F 4352).getD i 0) G ((dd G 4352).getD i 0) = false) : eqU F G n = false := by
  unfold eqU
  rw [List.all_eq_false]
  exact ⟨i, List.mem_range.2 hi, by rw [h]; simp⟩

set_option maxHeartbeats 4000000 in
set_option maxRecDepth 100000 in
theorem equalB_any (F G : Nat → Int) (b1 b2 n1 n2 c1 c2 : Nat) (w : World) (h1 : (dd F 4352).length = n1) (h2 : (dd G 4352).length = n2) (hm1 : n1 ≤ 4352) (hm2 : n2 ≤ 4352)
    (r1 : ∀ i k, (dd F 4352)[i]? = some k → w.rangeAt b1 (i * 256) (blc F k)) (r2 : ∀ i k, (dd G 4352)[i]? = some k → w.rangeAt b2 (i * 256) (blc G k)) (hb1 : b1 < w.heap.size) (hb2 : b2 < w.heap.size) :
    Calls Try.prog 54 #[.slice (some ⟨b1, 0, none⟩) n1 c1, .slice (some ⟨b2, 0, none⟩) n2 c2] w fun e w' => e = .returned (.bool (decide (n1 = n2) && eqU F G n1)) ∧ Below w.heap.size w w' := by
  by_cases hn : n1 = n2
  · subst hn
    have HR := Lib.hid (And.intro r1 r2)
    have HL := Lib.hid (And.intro h1 h2)
    have HE : Hid (decide (n1 = n1) && eqU F G n1 = eqU F G n1) := Lib.hid (by simp)
    obtain ⟨R, hR⟩ : ∃ R, R = eqU F G n1 := ⟨_, rfl⟩
    have HRR := Lib.hid hR
    rw [show (decide (n1 = n1) && eqU F G n1) = R by rw [hR]; simp]
    clear r1 r2 h1 h2 hR
    go_enter Try.func54, Try.ntmps54
    go_wp2_with fail
    go_loopw [13] (fun i wr => ∃ k : Nat, i = .int .i64 (k : Int) ∧ k ≤ n1 ∧ eqU F G k = true ∧ Below w.heap.size w wr) (fun i _ => n1 - (RowKit.intOf i).toNat)
    case atStart => exact ⟨0, rfl, Nat.zero_le _, rfl, Below.refl _ _⟩
    case round =>
      obtain ⟨k, rfl, hk, hq, hb⟩ := hrel
      by_cases hlt : k < n1
      · have i1 : (k : Int) < (n1 : Int) := by omega
        obtain ⟨k1, hk1⟩ : ∃ kk, (dd F 4352)[k]? = some kk := ⟨(dd F 4352)[k]'(by rw [HL.out.1]; exact hlt), List.getElem?_eq_getElem _⟩
        obtain ⟨k2, hk2⟩ : ∃ kk, (dd G 4352)[k]? = some kk := ⟨(dd G 4352)[k]'(by rw [HL.out.2]; exact hlt), List.getElem?_eq_getElem _⟩
        have g1 := rangeAt_below (HR.out.1 k k1 hk1) hb1 hb
        have g2 := rangeAt_below (HR.out.2 k k2 hk2) hb2 hb
        have hs := eqU_succ F G k
        have hno := eqU_no F G n1 k hlt
        rw [List.getD_eq_getElem?_getD, hk1, List.getD_eq_getElem?_getD, hk2] at hs hno
        simp only [Option.getD_some] at hs hno
        have hne := blk_neq F k1 G k2
        have hl1 := blc_len F k1
        have hl2 := blc_len G k2
        generalize eqBlk F k1 G k2 = q at *
        have HS := Lib.hid (And.intro hs (And.intro hno (And.intro hq hb)))
        have HK := Lib.hid (And.intro hk1 hk2)
        have gg := guard84
        have HBW := Lib.hid (hb.drew)
        have G1 := Lib.hid (And.intro (HR.out.1 k k1 hk1) (HR.out.2 k k2 hk2))
        generalize blc F k1 = B1 at *
        generalize blc G k2 = B2 at *
        clear hs hno hq hb hk1 hk2 g1 g2
        trace "L1"
        go_wp2_with fail
        refine wp_region_noPanic ?_
        refine wp_region_held_drew (S := fun W => Below w.heap.size w W) (by kernel_rfl) HBW.out (fun hH => ?_)
        refine wpAnyH_take (i := 0) (oi := { dst := some 16, op := Op.move (Operand.tmp 0), type := 75, pos := "slices.go:25", after := #[], guard := none }) (v := ?_) rfl (by kernel_rfl) (by kernel_rfl) (by kernel_rfl) (fun _ _ _ h => h) (Or.inl ⟨by rfl, ?_⟩) (by exact hH) ?_
        rotate_left
        · intro W hSw
          go_simp
          try with_reducible rfl
        try simp only [Act.put, List.setIfInBounds_toArray, List.set_cons_zero, List.set_cons_succ]
        refine wpAnyH_take (i := 1) (oi := { dst := some 17, op := Op.move (Operand.tmp 5), type := 3, pos := "slices.go:25", after := #[], guard := none }) (v := ?_) rfl (by kernel_rfl) (by kernel_rfl) (by kernel_rfl) (fun _ _ _ h => h) (Or.inl ⟨by rfl, ?_⟩) (by exact hH) ?_
        rotate_left
        · intro W hSw
          go_simp
          try with_reducible rfl
        try simp only [Act.put, List.setIfInBounds_toArray, List.set_cons_zero, List.set_cons_succ]
        refine wpAnyH_take (i := 2) (oi := { dst := some 18, op := Op.indexAddr 75 (Operand.tmp 16) (Operand.tmp 17), type := 0, pos := "slices.go:25", after := #[{ on := 0, ground := Ground.data }, { on := 1, ground := Ground.data }], guard := none }) (v := ?_) rfl (by kernel_rfl) (by kernel_rfl) (by kernel_rfl) (fun _ _ _ h => h) (Or.inl ⟨by rfl, ?_⟩) (by exact hH) ?_
        rotate_left
        · intro W hSw
          go_simp
          try with_reducible rfl
        try simp only [Act.put, List.setIfInBounds_toArray, List.set_cons_zero, List.set_cons_succ]
        refine wpAnyH_take (i := 3) (oi := { dst := some 19, op := Op.load 84 (Operand.tmp 18), type := 84, pos := "slices.go:25", after := #[{ on := 2, ground := Ground.data }], guard := none }) (v := .agg (List.toArray B1)) rfl (by kernel_rfl) (by kernel_rfl) (by kernel_rfl) (fun _ _ _ h => h) (yieldsIf_load_mid (by rfl) 84 (.tmp 18) rfl b1 (k * 256) rfl B1 (.array 256 5) (fun W hSw => rangeAt_below G1.out.1 hb1 hSw) Try.underlying84 rfl (by rw [hl1]; exact size84)) (by exact hH) ?_
        try simp only [Act.put, List.setIfInBounds_toArray, List.set_cons_zero, List.set_cons_succ]
        refine wpAnyH_take (i := 4) (oi := { dst := some 20, op := Op.move (Operand.tmp 1), type := 75, pos := "slices.go:25", after := #[], guard := none }) (v := ?_) rfl (by kernel_rfl) (by kernel_rfl) (by kernel_rfl) (fun _ _ _ h => h) (Or.inl ⟨by rfl, ?_⟩) (by exact hH) ?_
        rotate_left
        · intro W hSw
          go_simp
          try with_reducible rfl
        try simp only [Act.put, List.setIfInBounds_toArray, List.set_cons_zero, List.set_cons_succ]
        refine wpAnyH_take (i := 5) (oi := { dst := some 21, op := Op.move (Operand.tmp 5), type := 3, pos := "slices.go:25", after := #[], guard := none }) (v := ?_) rfl (by kernel_rfl) (by kernel_rfl) (by kernel_rfl) (fun _ _ _ h => h) (Or.inl ⟨by rfl, ?_⟩) (by exact hH) ?_
        rotate_left
        · intro W hSw
          go_simp
          try with_reducible rfl
        try simp only [Act.put, List.setIfInBounds_toArray, List.set_cons_zero, List.set_cons_succ]
        refine wpAnyH_take (i := 6) (oi := { dst := some 22, op := Op.indexAddr 75 (Operand.tmp 20) (Operand.tmp 21), type := 0, pos := "slices.go:25", after := #[{ on := 4, ground := Ground.data }, { on := 5, ground := Ground.data }], guard := none }) (v := ?_) rfl (by kernel_rfl) (by kernel_rfl) (by kernel_rfl) (fun _ _ _ h => h) (Or.inl ⟨by rfl, ?_⟩) (by exact hH) ?_
        rotate_left
        · intro W hSw
          go_simp
          try with_reducible rfl
        try simp only [Act.put, List.setIfInBounds_toArray, List.set_cons_zero, List.set_cons_succ]
        refine wpAnyH_take (i := 7) (oi := { dst := some 23, op := Op.load 84 (Operand.tmp 22), type := 84, pos := "slices.go:25", after := #[{ on := 6, ground := Ground.data }], guard := none }) (v := .agg (List.toArray B2)) rfl (by kernel_rfl) (by kernel_rfl) (by kernel_rfl) (fun _ _ _ h => h) (yieldsIf_load_mid (by rfl) 84 (.tmp 22) rfl b2 (k * 256) rfl B2 (.array 256 5) (fun W hSw => rangeAt_below G1.out.2 hb2 hSw) Try.underlying84 rfl (by rw [hl2]; exact size84)) (by exact hH) ?_
        try simp only [Act.put, List.setIfInBounds_toArray, List.set_cons_zero, List.set_cons_succ]
        refine wpAnyH_take (i := 8) (oi := { dst := some 24, op := Op.binOp BinOp.neq 84 (Operand.tmp 19) (Operand.tmp 23) 84, type := 4, pos := "slices.go:25", after := #[{ on := 3, ground := Ground.data }, { on := 7, ground := Ground.data }], guard := none }) (v := ?_) rfl (by kernel_rfl) (by kernel_rfl) (by kernel_rfl) (fun _ _ _ h => h) (Or.inl ⟨by rfl, ?_⟩) (by exact hH) ?_
        rotate_left
        · intro W hSw
          go_simp
          try with_reducible rfl
        try simp only [Act.put, List.setIfInBounds_toArray, List.set_cons_zero, List.set_cons_succ]
        refine wpAnyH_done (by kernel_rfl) ?_ _
        refine NoPanic.normal ?_
        cases q with
        | true =>
          have hend : eqU F G (k + 1) = true := by rw [HS.out.1, HS.out.2.2.1]; rfl
          have HEND := Lib.hid hend
          clear hend
          go_wp2_with fail
          go_roundw
          case rel => exact ⟨k + 1, by go_num, by omega, HEND.out, HBW.out⟩
          case measure => simp [RowKit.intOf]; omega
        | false =>
          have E := Lib.hid (show R = false by rw [HRR.out]; exact HS.out.2.1 rfl)
          go_wp2_with fail
          go_ret
          exact ⟨by rw [E.out]; rfl, HBW.out⟩
      · have hkn : k = n1 := by omega
        subst hkn
        have d1 : ¬ (k : Int) < (k : Int) := by omega
        have HB := Lib.hid hb
        have E := Lib.hid (show R = true by rw [HRR.out, hq])
        clear hb hq
        go_wp2_with fail
        go_ret
        exact ⟨by rw [E.out]; rfl, HB.out⟩
  · have e : (decide (n1 = n2) && eqU F G n1) = false := by simp [hn]
    rw [e]
    have hne : ((n1 : Int) == (n2 : Int)) = false := by simpa using fun h => hn (by omega)
    clear e r1 r2 h1 h2
    go_enter Try.func54, Try.ntmps54
    go_wp2_with fail
    go_ret
    exact ⟨rfl, Below.refl _ _⟩
end Go.Proofs.Ytphhdkffnboboaa

