/-
  Contracts: ansi.Strip, the document's Strip.
-/
import Derived.Test.YtpimadgcojgjaaaDoorApd
import Derived.Test.YtpimadgcojgjaaaDoorAnc
import Derived.Test.YtpimadgcojgjaaaDoorRrd
namespace Go.Proofs.YtpimadgcojgjaaaDoor
open Go.RowKit Go.Shelf Go.Lib Go.Maps

/-- Bytes of the call's own. -/
def BytesOk (w : World) (l : List Nat) (r : Ending) (w' : World) : Prop := ∃ v, r = .returned v ∧ OwnB w' w.heap.size l v ∧ Below w.heap.size w w'
theorem readAt_nat (xs : List Nat) (k : Nat) : readAt xs (k : Int) = readT (xs.drop k) := by rw [readAt, if_neg (by omega), Int.toNat_natCast]
theorem fld42 (a b c d : Value) (w : World) : (Instr.field 42 (.agg #[a, b, c, d]) 0).run Tryd.prog w = .ok a w := by kernel_rfl
theorem fld44 (a b c d : Value) (w : World) : (Instr.field 44 (.agg #[a, b, c, d]) 0).run Tryd.prog w = .ok a w := by kernel_rfl
theorem below_lit {w wr : World} (hb : Below w.heap.size w wr) (o : Obj) : Below w.heap.size w (wr.alloc o) := hb.alloc hb.size _
set_option maxHeartbeats 8000000 in
set_option maxRecDepth 100000 in
theorem strip_any (xs : List Nat) (A : Option Addr) (cap : Nat) (hn : xs.length ≤ 100000) (w : World) (h : BY w w.heap.size xs A cap) : Calls Tryd.prog 29 #[.slice A xs.length cap] w (BytesOk w (stripK 0 xs)) := by
  have RD := fun (k : Nat) W (hb : Below w.heap.size w W) => read_any xs A cap (k : Int) W (h.on hb)
  obtain ⟨R, hR⟩ : ∃ R, stripK 0 xs = R := ⟨_, rfl⟩
  obtain ⟨N, hN⟩ : ∃ N, xs.length = N := ⟨_, rfl⟩
  rw [hN] at RD hn
  rw [hR, hN]
  have HH := Lib.hid (And.intro h (And.intro hR (And.intro hN RD)))
  clear h hR hN RD
  go_enter Tryd.func29, Tryd.ntmps29
  go_wp2_with fail
  go_loopw [3, 4, 5] (fun v i _ wr => ∃ (k : Nat) (l : List Nat), i = .int .i64 (k : Int) ∧ k ≤ N ∧ l.length ≤ k ∧ OwnB wr w.heap.size l v ∧ l ++ stripK 0 (xs.drop k) = R ∧ Below w.heap.size w wr) (fun _ i _ _ => N - (RowKit.intOf i).toNat)
  case atStart => exact ⟨0, [], by go_num, by omega, by simp, ownB_nil _ _, HH.out.2.1, Below.refl _ _⟩
  case round =>
    obtain ⟨k, l, rfl, hk, hl, ho, hs, hb⟩ := hrel
    by_cases hlt : k < N
    case neg =>
      obtain rfl : k = N := by omega
      have i1 : ¬ (k : Int) < (k : Int) := by omega
      have hf : OwnB wr w.heap.size R u3 := by
        rw [← HH.out.2.2.1, List.drop_length] at hs
        simp [stripK] at hs
        rw [← hs]; exact ho
      have HF := Lib.hid (And.intro hf hb)
      clear hf hs ho hb hl
      go_wp2_with fail
      go_ret
      exact ⟨_, rfl, HF.out.1, HF.out.2⟩
    have i1 : (k : Int) < (N : Int) := by omega
    obtain ⟨x, hx⟩ := at_lt (l := xs) (k := k) (by rw [HH.out.2.2.1]; exact hlt)
    have C := HH.out.2.2.2 k wr hb
    rw [readAt_nat] at C
    obtain ⟨hsz, hsz0⟩ := readT_size (xs.drop k)
    rw [List.length_drop, HH.out.2.2.1] at hsz
    have hkeep := fun h => strip_keep (c := x) (r := xs.drop (k + 1)) h
    have hskip := fun h => strip_skip (l := xs.drop k) h
    rw [← drop_at hx] at hkeep
    rw [List.drop_drop] at hskip
    obtain ⟨b, o, rfl, hbl, d0⟩ := HH.out.1.at hx
    have d0 := (hb.cell (p := ⟨b, o + k, none⟩) hbl).trans d0
    have hxl := HH.out.1.lt hx
    obtain ⟨E, hE⟩ : ∃ E, readT (xs.drop k) = E := ⟨_, rfl⟩
    rw [hE] at C hsz hkeep hskip
    obtain ⟨S, Wh, Op, La⟩ := E
    unfold escV at C
    dsimp only at C hsz hkeep hskip
    obtain ⟨X, hX⟩ : ∃ X : Int, X = (x : Int) := ⟨_, rfl⟩
    rw [← hX] at d0
    have HK := Lib.hid (And.intro C (And.intro hb (And.intro ho (And.intro hs (And.intro hkeep (And.intro hskip (And.intro d0 hbl)))))))
    have HX := Lib.hid hX
    clear C hb ho hs hkeep hskip d0 hx hE hsz0 hX
    go_wp2_with fail
    refine HK.out.1.mono ?_
    rintro r w1 ⟨rfl, hb1⟩
    have hb2 := HK.out.2.1.trans (hb1.mono HK.out.2.1.size)
    have ho2 := HK.out.2.2.1.below hb1
    have d1 := (hb2.cell (p := ⟨b, o + k, none⟩) HK.out.2.2.2.2.2.2.2).trans ((HK.out.2.1.cell (p := ⟨b, o + k, none⟩) HK.out.2.2.2.2.2.2.2).symm.trans HK.out.2.2.2.2.2.2.1)
    by_cases h0 : S = 0
    · subst h0
      have F0 := fld42 (.int .i64 0) (.bool Wh) (.bool Op) (.int .u8 (La : Int)) w1
      have ho3 : OwnB (w1.alloc (.cells #[.int .u8 X] 5)) w.heap.size l u3 := ho2.below (below_new _ _)
      have c3 : (w1.alloc (.cells #[.int .u8 X] 5)).cell? ⟨w1.heap.size, 0, none⟩ = some (.int .u8 X) := by rw [World.cell?_alloc_new]; rfl
      have b3 := below_lit hb2 (.cells #[.int .u8 X] 5)
      have HL := Lib.hid (And.intro ho3 (And.intro c3 b3))
      clear ho2 hb1 hb2 ho3 c3 b3
      go_wp2_with (first
        | (at_builtin
           refine wpList_appB rfl (.tmp 16) (.tmp 21) rfl w.heap.size _ l l.length rfl rfl HL.out.1 ⟨w1.heap.size, 0, none⟩ X x HX.out rfl HL.out.2.1 (by omega) HL.out.2.2.size ?_)
        | fail)
      intro g cp w4 h4 hb4
      have hend : ∃ (k' : Nat) (l' : List Nat), Value.int .i64 ((k : Int) + 1) = .int .i64 (k' : Int) ∧ k' ≤ N ∧ l'.length ≤ k' ∧ OwnB w4 w.heap.size l' (.slice (some ⟨g, 0, none⟩) (l.length + 1) cp) ∧ l' ++ stripK 0 (xs.drop k') = R ∧ Below w.heap.size w w4 :=
        ⟨k + 1, l ++ [x], by simp, by omega, by simp; omega, h4, by rw [List.append_assoc, ← HK.out.2.2.2.1, HK.out.2.2.2.2.1 (by simp)]; rfl, HL.out.2.2.trans hb4⟩
      have HEND := Lib.hid hend
      clear hend h4 hb4
      go_wp2_with fail
      go_roundw
      case rel => exact HEND.out
      case measure => simp [RowKit.intOf]; omega
    · have F0 := fld42 (.int .i64 (S : Int)) (.bool Wh) (.bool Op) (.int .u8 (La : Int)) w1
      have hz : ((S : Int) == 0) = false := by rw [beq_eq_false_iff_ne]; omega
      have hend : ∃ (k' : Nat) (l' : List Nat), Value.int .i64 ((k : Int) + (S : Int)) = .int .i64 (k' : Int) ∧ k' ≤ N ∧ l'.length ≤ k' ∧ OwnB w1 w.heap.size l' u3 ∧ l' ++ stripK 0 (xs.drop k') = R ∧ Below w.heap.size w w1 :=
        ⟨k + S, l, by simp, by omega, by omega, ho2, by rw [← HK.out.2.2.2.1, HK.out.2.2.2.2.2.1 h0], hb2⟩
      have HEND := Lib.hid hend
      clear hend ho2 hb1 hb2
      go_wp2_with fail
      go_roundw
      case rel => exact HEND.out
      case measure => simp [RowKit.intOf]; omega
set_option maxHeartbeats 8000000 in
set_option maxRecDepth 100000 in
theorem refStrip_any (xs : List Nat) (A : Option Addr) (cap : Nat) (hn : xs.length ≤ 100000) (w : World) (h : BY w w.heap.size xs A cap) : Calls Tryd.prog 30 #[.slice A xs.length cap] w (BytesOk w (stripK 0 xs)) := by
  have RD := fun (k : Nat) W (hb : Below w.heap.size w W) => refRead_any xs A cap (k : Int) W (h.on hb)
  obtain ⟨R, hR⟩ : ∃ R, stripK 0 xs = R := ⟨_, rfl⟩
  obtain ⟨N, hN⟩ : ∃ N, xs.length = N := ⟨_, rfl⟩
  rw [hN] at RD hn
  rw [hR, hN]
  have HH := Lib.hid (And.intro h (And.intro hR (And.intro hN RD)))
  clear h hR hN RD
  go_enter Tryd.func30, Tryd.ntmps30
  go_wp2_with fail
  go_loopw [3, 4, 5] (fun v s i wr => ∃ (k q : Nat) (l : List Nat), i = .int .i64 (k : Int) ∧ s = .int .i64 (q : Int) ∧ k ≤ N ∧ q ≤ 100000 ∧ l.length ≤ k ∧ OwnB wr w.heap.size l v ∧ l ++ stripK q (xs.drop k) = R ∧ Below w.heap.size w wr) (fun _ _ i _ => N - (RowKit.intOf i).toNat)
  case atStart => exact ⟨0, 0, [], by go_num, by go_num, by omega, by omega, by simp, ownB_nil _ _, HH.out.2.1, Below.refl _ _⟩
  case round =>
    obtain ⟨k, q, l, rfl, rfl, hk, hq, hl, ho, hs, hb⟩ := hrel
    by_cases hlt : k < N
    case neg =>
      obtain rfl : k = N := by omega
      have i1 : ¬ (k : Int) < (k : Int) := by omega
      have hf : OwnB wr w.heap.size R u3 := by
        rw [← HH.out.2.2.1, List.drop_length] at hs
        have e : stripK q [] = [] := by cases q <;> rfl
        rw [e, List.append_nil] at hs
        rw [← hs]; exact ho
      have HF := Lib.hid (And.intro hf hb)
      clear hf hs ho hb hl
      go_wp2_with fail
      go_ret
      exact ⟨_, rfl, HF.out.1, HF.out.2⟩
    have i1 : (k : Int) < (N : Int) := by omega
    obtain ⟨x, hx⟩ := at_lt (l := xs) (k := k) (by rw [HH.out.2.2.1]; exact hlt)
    by_cases hq0 : q = 0
    case neg =>
      have hz : ((q : Int) == 0) = false := by rw [beq_eq_false_iff_ne]; omega
      have hp : (0 : Int) < (q : Int) := by omega
      have hsub : (q : Int) - 1 = ((q - 1 : Nat) : Int) := by omega
      have hs2 : l ++ stripK (q - 1) (xs.drop (k + 1)) = R := by rw [← hs, drop_at hx, stripK, if_neg hq0]
      have HK := Lib.hid (And.intro hb (And.intro ho hs2))
      clear hb ho hs hx hs2
      go_wp2_with fail
      go_roundw
      case rel => exact ⟨k + 1, q - 1, l, by go_num, by go_num, by omega, by omega, by omega, HK.out.2.1, HK.out.2.2, HK.out.1⟩
      case measure => simp [RowKit.intOf]; omega
    subst hq0
    have C := HH.out.2.2.2 k wr hb
    rw [readAt_nat] at C
    obtain ⟨hsz, hsz0⟩ := readT_size (xs.drop k)
    rw [List.length_drop, HH.out.2.2.1] at hsz
    have hkeep := fun h => strip_keep (c := x) (r := xs.drop (k + 1)) h
    have hskip := fun h => strip_skip (l := xs.drop k) h
    rw [← drop_at hx] at hkeep
    rw [List.drop_drop] at hskip
    obtain ⟨b, o, rfl, hbl, d0⟩ := HH.out.1.at hx
    have d0 := (hb.cell (p := ⟨b, o + k, none⟩) hbl).trans d0
    obtain ⟨E, hE⟩ : ∃ E, readT (xs.drop k) = E := ⟨_, rfl⟩
    rw [hE] at C hsz hkeep hskip
    obtain ⟨S, Wh, Op, La⟩ := E
    unfold escV at C
    dsimp only at C hsz hkeep hskip
    obtain ⟨X, hX⟩ : ∃ X : Int, X = (x : Int) := ⟨_, rfl⟩
    rw [← hX] at d0
    have HK := Lib.hid (And.intro C (And.intro hb (And.intro ho (And.intro hs (And.intro hkeep (And.intro hskip (And.intro d0 hbl)))))))
    have HX := Lib.hid hX
    clear C hb ho hs hkeep hskip d0 hx hE hsz0 hX
    go_wp2_with fail
    refine HK.out.1.mono ?_
    rintro r w1 ⟨rfl, hb1⟩
    have hb2 := HK.out.2.1.trans (hb1.mono HK.out.2.1.size)
    have ho2 := HK.out.2.2.1.below hb1
    have d1 := (hb2.cell (p := ⟨b, o + k, none⟩) HK.out.2.2.2.2.2.2.2).trans ((HK.out.2.1.cell (p := ⟨b, o + k, none⟩) HK.out.2.2.2.2.2.2.2).symm.trans HK.out.2.2.2.2.2.2.1)
    by_cases h0 : S = 0
    · subst h0
      have F0 := fld44 (.int .i64 0) (.bool Wh) (.bool Op) (.int .u8 (La : Int)) w1
      have ho3 : OwnB (w1.alloc (.cells #[.int .u8 X] 5)) w.heap.size l u3 := ho2.below (below_new _ _)
      have c3 : (w1.alloc (.cells #[.int .u8 X] 5)).cell? ⟨w1.heap.size, 0, none⟩ = some (.int .u8 X) := by rw [World.cell?_alloc_new]; rfl
      have b3 := below_lit hb2 (.cells #[.int .u8 X] 5)
      have HL := Lib.hid (And.intro ho3 (And.intro c3 b3))
      clear ho2 hb1 hb2 ho3 c3 b3
      go_wp2_with (first
        | (at_builtin
           refine wpList_appB rfl (.tmp 22) (.tmp 27) rfl w.heap.size _ l l.length rfl rfl HL.out.1 ⟨w1.heap.size, 0, none⟩ X x HX.out rfl HL.out.2.1 (by omega) HL.out.2.2.size ?_)
        | fail)
      intro g cp w4 h4 hb4
      have hend : ∃ (k' q' : Nat) (l' : List Nat), Value.int .i64 ((k : Int) + 1) = .int .i64 (k' : Int) ∧ Value.int .i64 0 = .int .i64 (q' : Int) ∧ k' ≤ N ∧ q' ≤ 100000 ∧ l'.length ≤ k' ∧ OwnB w4 w.heap.size l' (.slice (some ⟨g, 0, none⟩) (l.length + 1) cp) ∧ l' ++ stripK q' (xs.drop k') = R ∧ Below w.heap.size w w4 :=
        ⟨k + 1, 0, l ++ [x], by simp, rfl, by omega, by omega, by simp; omega, h4, by rw [List.append_assoc, ← HK.out.2.2.2.1, HK.out.2.2.2.2.1 (by simp)]; rfl, HL.out.2.2.trans hb4⟩
      have HEND := Lib.hid hend
      clear hend h4 hb4
      go_wp2_with fail
      go_roundw
      case rel => exact HEND.out
      case measure => simp [RowKit.intOf]; omega
    · have F0 := fld44 (.int .i64 (S : Int)) (.bool Wh) (.bool Op) (.int .u8 (La : Int)) w1
      have hz : ((S : Int) == 0) = false := by rw [beq_eq_false_iff_ne]; omega
      have hp : (0 : Int) < (S : Int) := by omega
      have hend : ∃ (k' q' : Nat) (l' : List Nat), Value.int .i64 ((k : Int) + 1) = .int .i64 (k' : Int) ∧ Value.int .i64 ((S : Int) - 1) = .int .i64 (q' : Int) ∧ k' ≤ N ∧ q' ≤ 100000 ∧ l'.length ≤ k' ∧ OwnB w1 w.heap.size l' u3 ∧ l' ++ stripK q' (xs.drop k') = R ∧ Below w.heap.size w w1 :=
        ⟨k + 1, S - 1, l, by simp, by congr 1; omega, by omega, by omega, by omega, ho2, by rw [← HK.out.2.2.2.1, HK.out.2.2.2.2.2.1 h0, stripK_drop (S - 1), List.drop_drop, show k + 1 + (S - 1) = k + S by omega], hb2⟩
      have HEND := Lib.hid hend
      clear hend ho2 hb1 hb2
      go_wp2_with fail
      go_roundw
      case rel => exact HEND.out
      case measure => simp [RowKit.intOf]; omega
end Go.Proofs.YtpimadgcojgjaaaDoor
