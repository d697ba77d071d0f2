/-
  Contracts: how many places a set has, about; the list of its places.
-/
import Derived.Test.YtlbcicoppglgjaaDoorOne
namespace Go.Proofs.YtlbcicoppglgjaaDoor
open Go.RowKit Go.Shelf Go.Lib Go.Great

theorem info3 : (Tryd.prog.info? 3).map (fun i => (i.zero, i.size, i.bytes)) = some (some (.int .i64 0), 1, 8) := by kernel_rfl
set_option maxHeartbeats 4000000 in
set_option maxRecDepth 100000 in
theorem count_any (b o m : Nat) (w : World) (h : PlAt w b o m) : Calls Tryd.prog 44 #[.pointer (some ⟨b, o, none⟩)] w fun e w' => (∃ r : Nat, e = .returned (.int .i64 (r : Int)) ∧ r ≤ 3000) ∧ w' = w := by
  have H := Lib.hid h
  clear h
  go_enter Tryd.func44, Tryd.ntmps44
  go_wp2_with fail
  go_loopw [3, 7] (fun c i wr => ∃ k r : Nat, i = .int .i64 (k : Int) ∧ c = .int .i64 (r : Int) ∧ k ≤ 16 ∧ r ≤ 127 * k ∧ wr = w) (fun _ i _ => 16 - (RowKit.intOf i).toNat)
  case atStart => exact ⟨0, 0, rfl, rfl, by omega, by omega, rfl⟩
  case round =>
    obtain ⟨k, r, rfl, rfl, hk, hr, rfl⟩ := hrel
    by_cases hlt : k < 16
    · have i1 : (k : Int) < 16 := by omega
      have c1 := (H.out k hlt).1
      have C := Lib.hid (fun x => ones_any x wr)
      go_wp2_with fail
      refine (C.out _).mono ?_
      rintro e w2 ⟨⟨q, rfl, hq⟩, rfl⟩
      have hw : wrap64 ((r : Int) + (q : Int)) = (r : Int) + (q : Int) := by unfold wrap64; omega
      have HH := Lib.hid (And.intro hk (And.intro hr hq))
      clear hr hq c1
      go_wp2_with fail
      go_roundw
      case rel => exact ⟨k + 1, r + q, by go_num, by go_num, by omega, by have := HH.out; omega, trivial⟩
      case measure => simp [RowKit.intOf]; omega
    · obtain rfl : k = 16 := by omega
      have d1 : ¬ ((16 : Nat) : Int) < 16 := by omega
      have HR := Lib.hid hr
      clear hr
      go_wp2_with fail
      go_ret
      exact ⟨⟨r, rfl, by have := HR.out; omega⟩, rfl⟩

/-- The cells of a list of places. -/
def cellsP (l : List Nat) : List Value := l.map fun (p : Nat) => Value.int .i64 (p : Int)
theorem cellsP_len (l : List Nat) : (cellsP l).length = l.length := by simp [cellsP]
theorem cellsP_snoc (l : List Nat) (p : Nat) : cellsP (l ++ [p]) = cellsP l ++ [.int .i64 (p : Int)] := by simp [cellsP]
/-- The call's own list of places. -/
def OwnP (w : World) (base : Nat) (l : List Nat) (v : Value) : Prop := w.ownsRow base 3 1 v l.length (cellsP l)
theorem OwnP.grown {w w' : World} {base : Nat} {l : List Nat} {v : Value} (h : OwnP w base l v) (hb : w.grownBy w' none) : OwnP w' base l v := World.ownsRow.kept h hb (by cases v.ownBlock <;> simp)
set_option maxHeartbeats 4000000 in
set_option maxRecDepth 100000 in
theorem list_any (b o m : Nat) (w : World) (h : PlAt w b o m) (hT : TZ w) : Calls Tryd.prog 33 #[.pointer (some ⟨b, o, none⟩)] w fun e w' => ∃ v, e = .returned v ∧ OwnP w' w.heap.size (posL m) v ∧ Below w.heap.size w w' := by
  obtain ⟨i0, hi, hz0, hz1, hz2⟩ := info_parts info3
  have C := Lib.hid (count_any b o m w h)
  have hbl := h.lt
  have H := Lib.hid h
  have HT := Lib.hid hT
  clear h hT
  go_enter Tryd.func33, Tryd.ntmps33
  go_wp2_with fail
  refine C.out.mono ?_
  rintro e w2 ⟨⟨r, rfl, hr⟩, rfl⟩
  go_wp2_with (first
    | (at_make; refine wpList_make_own _ rfl _ _ 23 rfl w2.heap.size 3 i0 (.int .i64 0) 1 Tryd.underlying23 hi hz0 hz1 .i64 .i64 (r : Int) r rfl rfl rfl (by rw [hz2]; omega) (by unfold maxLen; omega) (Nat.le_refl _) ?_; intro w3 ho3 hg3)
    | fail)
  have hb3 : Below w2.heap.size w2 w3 := (Below.refl _ _).grown hg3 (Nat.le_refl _) (fun _ e => by cases e)
  go_loopw [3, 10] (fun v i wr => ∃ k : Nat, i = .int .i64 (k : Int) ∧ k ≤ 16 ∧ OwnP wr w2.heap.size (posN m (64 * k)) v ∧ Below w2.heap.size w2 wr) (fun _ i _ => 16 - (RowKit.intOf i).toNat)
  case atStart => exact ⟨0, rfl, by omega, by simpa [OwnP, posN, cellsP] using ho3, hb3⟩
  case round =>
    obtain ⟨wo, rfl⟩ : ∃ wo : World, wo = wr := ⟨_, rfl⟩
    obtain ⟨k, rfl, hk, hown, hb⟩ := hrel
    by_cases hlt : k < 16
    · have i1 : (k : Int) < 16 := by omega
      have hat : PlAt wo b o m := H.out.block (hb.block b hbl)
      have c1 := (hat k hlt).1
      have HO := Lib.hid (And.intro hown hb)
      clear hown hb hat
      go_wp2_with fail
      go_region
      go_wp2_with fail
      go_loopw [3, 5] (fun v x wr => ∃ t y : Nat, x = .int .u64 (y : Int) ∧ t ≤ 64 ∧ Left m k t y ∧ OwnP wr w2.heap.size (posN m (64 * k + t)) v ∧ Below w2.heap.size w2 wr) (fun _ x _ => (RowKit.intOf x).toNat)
      case atStart => exact ⟨0, wd m k, rfl, by omega, left_start m k, HO.out.1, HO.out.2.drew⟩
      case round =>
        obtain ⟨t, y, rfl, ht, hl, hown, hb⟩ := hrel
        by_cases hy : y = 0
        · subst hy
          have e0 := left_end hlt ht hl
          rw [e0] at hown
          have HW := Lib.hid (And.intro hown hb)
          clear hown hb hl e0
          go_wp2_with fail
          go_roundw
          case rel => exact ⟨k + 1, by go_num, by omega, HW.out.1, HW.out.2⟩
          case measure => simp [RowKit.intOf]; omega
        · have hy1 : ((y : Int) == 0) = false := by simp; omega
          have hy2 : ¬ (y : Int) = 0 := by omega
          obtain ⟨q, hq, hk64⟩ := ctz_form y hl.1 hy
          have hst := left_step hlt hl hq hk64
          have hTw : TZ wr := HT.out.below hb (Nat.lt_of_le_of_lt (Nat.zero_le _) hbl)
          have C2 := Lib.hid (tz_any y hl.1 hy wr hTw)
          have hlt2 : y &&& (y - 1) < y := by have := Nat.and_le_right (n := y) (m := y - 1); omega
          have HB := Lib.hid (show bits .and .u64 (y : Int) (IntKind.u64.wrap ((y : Int) - 1)) = ((y &&& (y - 1) : Nat) : Int) by
            have e1 : IntKind.u64.wrap ((y : Int) - 1) = ((y - 1 : Nat) : Int) := by have := hl.1; rw [IntKind.wrap_u64]; omega
            rw [e1, bits_and_u64_nat _ _ hl.1 (by have := hl.1; omega)])
          generalize Lib.ctz 64 y = z at *
          have hlen := posN_len m (64 * k + t)
          have HW := Lib.hid (And.intro hown (And.intro hb (And.intro hst (And.intro hlt2 hlen))))
          have hw1 : wrap64 ((k : Int) * 64) = (k : Int) * 64 := by unfold wrap64; omega
          have hw2 : wrap64 ((k : Int) * 64 + (z : Int)) = (k : Int) * 64 + (z : Int) := by unfold wrap64; omega
          clear hown hb hl hst hTw hlt2 hq hlen
          go_wp2_with fail
          refine C2.out.mono ?_
          rintro e w4 ⟨rfl, rfl⟩
          go_wp2_with (first
            | (at_builtin; refine wpList_append_own _ rfl _ _ 23 rfl w2.heap.size 3 i0 (.int .i64 0) 1 8 Tryd.underlying23 hi hz0 hz1 hz2 rfl (by decide) _ _ _ rfl (HW.out.1.alloc _) ⟨w4.heap.size, 0, none⟩ 1 1 [.int .i64 ((k : Int) * 64 + (z : Int))] rfl rfl (cell_one_new _ _ _) (by simp [Value.oneCell']) ?c2 ?c3 ?c4 ?_)
            | fail)
          case c2 => unfold maxLen; have := HW.out.2.2.2.2; omega
          case c3 => have := HW.out.2.2.2.2; omega
          case c4 => have := HW.out.2.1.size; simp; omega
          intro v5 w5 hown5 hgrow5 _
          have hb5 : Below w2.heap.size w2 w5 := (HW.out.2.1.alloc HW.out.2.1.size _).grown hgrow5 (by have := HW.out.2.1.size; simp; omega) (fun j hj => (HW.out.1.lt j hj).1)
          have ho5 : OwnP w5 w2.heap.size (posN m (64 * k + (z + 1))) v5 := by
            rw [HW.out.2.2.1.2.1]
            unfold OwnP
            rw [cellsP_snoc]
            have e1 : ((64 * k + z : Nat) : Int) = (k : Int) * 64 + (z : Int) := by omega
            rw [e1]
            simpa using hown5
          have hend : ∃ t y' : Nat, Value.int .u64 (bits .and .u64 (y : Int) (IntKind.u64.wrap ((y : Int) - 1))) = .int .u64 (y' : Int) ∧ t ≤ 64 ∧ Left m k t y' ∧ OwnP w5 w2.heap.size (posN m (64 * k + t)) v5 ∧ Below w2.heap.size w2 w5 :=
            ⟨z + 1, y &&& (y - 1), by rw [HB.out], by omega, HW.out.2.2.1.2.2, ho5, hb5⟩
          have HEND := Lib.hid hend
          clear hown5 hgrow5 hb5 ho5 hend
          go_wp2_with fail
          go_roundw
          case rel => exact HEND.out
          case measure =>
            rw [HB.out]
            have := HW.out.2.2.2.1
            simp [RowKit.intOf]; omega
    · obtain rfl : k = 16 := by omega
      have d1 : ¬ ((16 : Nat) : Int) < 16 := by omega
      have HW := Lib.hid (And.intro hown hb)
      clear hown hb
      go_wp2_with fail
      go_ret
      exact ⟨_, rfl, HW.out.1, HW.out.2⟩
end Go.Proofs.YtlbcicoppglgjaaDoor
