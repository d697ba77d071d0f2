/-
  Contract: overlay.Breaks.
-/
import Derived.Test.YtflhdfbpafhjlaaObs
namespace Go.Proofs.Ytflhdfbpafhjlaa
open Go.RowKit Go.Shelf Go.Lib Go.Sort Go.Maps

theorem own_lit (w : World) : OwnI (w.alloc (.cells #[.int .i64 0] 3)) w.heap.size [0] (.slice (some ⟨w.heap.size, 0, none⟩) 1 1) :=
  ⟨rfl, .inr ⟨_, 1, _, rfl, Nat.le_refl _, cells_new w #[.int .i64 0] 3, Nat.le_refl _, by unfold maxLen; omega, rfl, rfl⟩⟩
set_option maxRecDepth 100000 in
set_option maxHeartbeats 8000000 in
theorem brk25_any (m : Int) (l : List IT) (A : Option Addr) (c : Nat) (q : List Bool) (B : Option Addr) (d : Nat) (w : World) (hA : IsA w w.heap.size l A c) (hR : ∀ x ∈ l, R32 x.r) (hl : l.length ≤ 1000) (hB : BS w w.heap.size q B d) :
    Calls Try.prog 11 #[.int .i64 m, .slice A l.length c, .slice B q.length d] w fun e w' => ∃ v, e = .returned v ∧ OwnI w' w.heap.size (brkAll m l q) v ∧ Below w.heap.size w w' := by
  have hq := hB.len
  have X1 := fun (k : Nat) => brkL_len m l q (k := k)
  have X2 := fun (k : Nat) => brkL_next m l q (k := k)
  obtain ⟨L, hL⟩ : ∃ L, brkAll m l q = L := ⟨_, rfl⟩
  rw [hL]
  unfold brkAll at hL
  obtain ⟨n, hn⟩ : ∃ n, l.length = n := ⟨_, rfl⟩
  obtain ⟨N, hN⟩ : ∃ N, q.length = N := ⟨_, rfl⟩
  rw [hn] at hl hL ⊢
  rw [hN] at hq hL ⊢
  have HH := Lib.hid (And.intro hA (And.intro hn (And.intro hR (And.intro hB (And.intro hN (And.intro X1 X2))))))
  clear hA hn hR hB hN X1 X2
  by_cases hNn : N = n + 1
  case neg =>
    have i1 : ¬ (N : Int) = (n : Int) + 1 := by omega
    have i2 : ((N : Int) != (n : Int) + 1) = true := by simpa using i1
    rw [if_neg hNn] at hL
    subst hL
    clear hNn
    go_enter Try.func11, Try.ntmps11
    go_wp2_with fail
    go_ret
    exact ⟨_, rfl, ownI_nil _ _, Below.refl _ _⟩
  case pos =>
    subst hNn
    rw [if_pos rfl] at hL
    have i2 : (((n + 1 : Nat) : Int) != (n : Int) + 1) = false := by simp
    have al := below_new w (.cells #[.int .i64 0] 3)
    have own1 : OwnI (w.alloc (.cells #[.int .i64 0] 3)) w.heap.size [0] (.slice (some ⟨w.heap.size, 0, none⟩) 1 1) := own_lit w
    by_cases h0 : n = 0
    · subst h0
      rw [if_pos rfl] at hL
      subst hL
      have H1 := Lib.hid (And.intro al own1)
      clear al own1
      go_enter Try.func11, Try.ntmps11
      go_wp2_with fail
      go_ret
      exact ⟨_, rfl, H1.out.2, H1.out.1⟩
    · have i3 : ((n : Int) == 0) = false := by simp; omega
      rw [if_neg h0] at hL
      have H1 := Lib.hid (And.intro al (And.intro own1 hL))
      clear al own1 hL
      have hn1 : 1 ≤ n := by omega
      clear h0
      go_enter Try.func11, Try.ntmps11
      go_wp2_with fail
      go_loopw [7, 8] (fun v i wr => ∃ k : Nat, i = .int .i64 (k : Int) ∧ 1 ≤ k ∧ k ≤ n ∧ OwnI wr w.heap.size (brkL m l q k) v ∧ Below w.heap.size w wr) (fun _ i _ => n - (RowKit.intOf i).toNat)
      case atStart => exact ⟨1, rfl, Nat.le_refl _, hn1, H1.out.2.1, H1.out.1⟩
      case round =>
        obtain ⟨k, rfl, hk1, hk, ho, hb⟩ := hrel
        by_cases hlt : k < n
        · obtain ⟨x, hx⟩ : ∃ x, l[k - 1]? = some x := ⟨l[k - 1]'(by rw [HH.out.2.1]; omega), List.getElem?_eq_getElem _⟩
          obtain ⟨y, hy⟩ : ∃ y, l[k]? = some y := ⟨l[k]'(by rw [HH.out.2.1]; exact hlt), List.getElem?_eq_getElem _⟩
          obtain ⟨z, hz⟩ : ∃ z, q[k]? = some z := ⟨q[k]'(by rw [HH.out.2.2.2.2.1]; omega), List.getElem?_eq_getElem _⟩
          obtain ⟨b, o, rfl, hbl, hc⟩ := (HH.out.1.below hb).r (k - 1) x hx
          obtain ⟨b', o', e', _, hc'⟩ := (HH.out.1.below hb).r k y hy
          injection e' with e'
          injection e' with e1 e2
          subst e1 e2
          obtain ⟨b2, o2, rfl, hbl2, hr2⟩ := (HH.out.2.2.2.1.below hb).r (by rintro e; rw [e] at hz; simp at hz)
          have cz := hr2 k z hz
          have hr := HH.out.2.2.1 x (List.mem_of_getElem? hx)
          have hbt : btAt m l q k = betw m x y z := by
            unfold btAt
            rw [getD_of hx, getD_of hy, getD_of hz]
          have hnx := HH.out.2.2.2.2.2.2 k hk1
          have hln := HH.out.2.2.2.2.2.1 k hk1
          rw [hbt] at hnx
          have T := fun W => betw_any m x y z hr W
          generalize betw m x y z = R at T hnx
          obtain ⟨P, hP⟩ : ∃ P, brkL m l q k = P := ⟨_, rfl⟩
          rw [hP] at hnx hln ho
          have i1 : (k : Int) < (n : Int) := by omega
          have i4 : (k : Int) ≤ 1000 := by omega
          have i5 : (1 : Int) ≤ (k : Int) := by omega
          have i6 : (k : Int) < ((n + 1 : Nat) : Int) := by omega
          obtain ⟨j, rfl⟩ : ∃ j, k = j + 1 := ⟨k - 1, by omega⟩
          rw [show j + 1 - 1 = j by omega] at hc
          obtain ⟨xr, xat, xsz, xf, xx, xn, xp⟩ := x
          obtain ⟨yr, yat, ysz, yf, yx, yn, yp⟩ := y
          unfold itA at T hc hc'
          simp only at T hc hc'
          have q0 : ∀ p : Later (fun _ => False) wr, p.W.cell? ⟨b, o + (j * 7 + 0), none⟩ = some (.int .i32 xr) := fun p => cell_later (hc 0 _ rfl) (fun hf => hf) p
          have q1 : ∀ p : Later (fun _ => False) wr, p.W.cell? ⟨b, o + (j * 7 + 1), none⟩ = some (.int .i64 xat) := fun p => cell_later (hc 1 _ rfl) (fun hf => hf) p
          have q2 : ∀ p : Later (fun _ => False) wr, p.W.cell? ⟨b, o + (j * 7 + 2), none⟩ = some (.int .i64 xsz) := fun p => cell_later (hc 2 _ rfl) (fun hf => hf) p
          have q3 : ∀ p : Later (fun _ => False) wr, p.W.cell? ⟨b, o + (j * 7 + 3), none⟩ = some (.bool xf) := fun p => cell_later (hc 3 _ rfl) (fun hf => hf) p
          have q4 : ∀ p : Later (fun _ => False) wr, p.W.cell? ⟨b, o + (j * 7 + 4), none⟩ = some (.bool xx) := fun p => cell_later (hc 4 _ rfl) (fun hf => hf) p
          have q5 : ∀ p : Later (fun _ => False) wr, p.W.cell? ⟨b, o + (j * 7 + 5), none⟩ = some (.bool xn) := fun p => cell_later (hc 5 _ rfl) (fun hf => hf) p
          have q6 : ∀ p : Later (fun _ => False) wr, p.W.cell? ⟨b, o + (j * 7 + 6), none⟩ = some (.bool xp) := fun p => cell_later (hc 6 _ rfl) (fun hf => hf) p
          have p0 : ∀ p : Later (fun _ => False) wr, p.W.cell? ⟨b, o + ((j + 1) * 7 + 0), none⟩ = some (.int .i32 yr) := fun p => cell_later (hc' 0 _ rfl) (fun hf => hf) p
          have p1 : ∀ p : Later (fun _ => False) wr, p.W.cell? ⟨b, o + ((j + 1) * 7 + 1), none⟩ = some (.int .i64 yat) := fun p => cell_later (hc' 1 _ rfl) (fun hf => hf) p
          have p2 : ∀ p : Later (fun _ => False) wr, p.W.cell? ⟨b, o + ((j + 1) * 7 + 2), none⟩ = some (.int .i64 ysz) := fun p => cell_later (hc' 2 _ rfl) (fun hf => hf) p
          have p3 : ∀ p : Later (fun _ => False) wr, p.W.cell? ⟨b, o + ((j + 1) * 7 + 3), none⟩ = some (.bool yf) := fun p => cell_later (hc' 3 _ rfl) (fun hf => hf) p
          have p4 : ∀ p : Later (fun _ => False) wr, p.W.cell? ⟨b, o + ((j + 1) * 7 + 4), none⟩ = some (.bool yx) := fun p => cell_later (hc' 4 _ rfl) (fun hf => hf) p
          have p5 : ∀ p : Later (fun _ => False) wr, p.W.cell? ⟨b, o + ((j + 1) * 7 + 5), none⟩ = some (.bool yn) := fun p => cell_later (hc' 5 _ rfl) (fun hf => hf) p
          have p6 : ∀ p : Later (fun _ => False) wr, p.W.cell? ⟨b, o + ((j + 1) * 7 + 6), none⟩ = some (.bool yp) := fun p => cell_later (hc' 6 _ rfl) (fun hf => hf) p
          have z0 : ∀ p : Later (fun _ => False) wr, p.W.cell? ⟨b2, o2 + (j + 1), none⟩ = some (.bool z) := fun p => cell_later cz (fun hf => hf) p
          simp only [← Nat.add_assoc, Nat.add_zero] at q0 q1 q2 q3 q4 q5 q6 p0 p1 p2 p3 p4 p5 p6
          have D1 : ∀ P : Later (fun _ => False) wr, Calls Try.prog 7 #[.int .i64 m, .agg #[.int .i32 xr, .int .i64 xat, .int .i64 xsz, .bool xf, .bool xx, .bool xn, .bool xp], .agg #[.int .i32 yr, .int .i64 yat, .int .i64 ysz, .bool yf, .bool yx, .bool yn, .bool yp], .bool z] P.W fun e w' => e = .returned (.int .i64 R) ∧ ∃ q : Later (fun _ => False) wr, w' = q.W := fun P =>
            (T P.W).mono fun e w' h => ⟨h.1, ⟨w', P.h.trans (Fz.of_below h.2)⟩, rfl⟩
          have H2 := Lib.hid (And.intro ho (And.intro hb (And.intro hnx hln)))
          clear ho hb hc hc' hnx hln hx hy hz cz hr2 hr T hP hbt hbl hbl2
          go_wp2_with fail
          refine wp_region_mix (fun i => if i = 15 then 1 else if i = 16 then 2 else if 17 ≤ i then 3 else 0) [0, 1, 2, 3, 4, 5, 6, 7, 8, 9, 10, 11, 12, 13, 14, 15] [16, 17, 18] (fun w' => ∃ P : Later (fun _ => False) wr, w' = P.W) (by kernel_rfl) (by kernel_rfl) ⟨⟨_, Fz.drew wr⟩, rfl⟩ ?_
          simp only [opsAt, List.filterMap_cons, List.filterMap_nil, List.getElem?_toArray, List.getElem?_cons_zero, List.getElem?_cons_succ]
          change wpQuiet _ _ _ _ [_, _, _, _, _, _, _, _, _, _, _, _, _, _, _, _] _
          repeat (go_big_quiet_step (with_reducible exact D1 _))
          refine wpQuiet_nil ?_
          rintro _ ⟨P0, rfl⟩
          obtain ⟨w4, z4⟩ := P0
          dsimp only
          clear q0 q1 q2 q3 q4 q5 q6 p0 p1 p2 p3 p4 p5 p6 z0 D1
          have bd : Below wr.heap.size wr w4 := ⟨z4.os, z4.tape, z4.output, z4.size, fun k hk => z4.block k hk (fun h => h)⟩
          have H4 := Lib.hid (And.intro z4 (And.intro (ownsRow_below H2.out.1 bd) (below_on H2.out.2.1 bd)))
          clear z4 bd
          refine wpSeqM_step rfl ?_
          go_wp2_with fail
          refine ⟨⟨⟨_, H4.out.1.trans (Fz.of_below (below_new w4 _))⟩, rfl⟩, ?_⟩
          have hbase : w.heap.size ≤ w4.heap.size := H4.out.2.2.size
          have hpre : P.length ≤ 1000000 := by have := H2.out.2.2.2; omega
          refine wpSeqM_step rfl ?_
          refine wpList_appN rfl (.tmp 26) (.tmp 42) rfl w.heap.size _ P R rfl w4 H4.out.2.1 rfl rfl hpre hbase ?_
          intro g cp w5 o5 b5
          rw [← H2.out.2.2.1, H2.out.2.2.2] at o5
          rw [H2.out.2.2.2]
          have HE := Lib.hid (And.intro o5 (H4.out.2.2.trans b5))
          clear o5 b5 hbase hpre
          go_wp2_with fail
          refine wpSeqM_step rfl ?_
          go_wp2_with fail
          unfold wpSeqM
          go_wp2_with fail
          go_roundw
          case rel => exact ⟨j + 1 + 1, by go_num, by omega, by omega, HE.out.1, HE.out.2⟩
          case measure => simp [RowKit.intOf]; omega
        · obtain rfl : k = n := by omega
          have i1 : ¬ (k : Int) < (k : Int) := by omega
          have hbase : w.heap.size ≤ wr.heap.size := hb.size
          have hln := HH.out.2.2.2.2.2.1 k hk1
          obtain ⟨P, hP⟩ : ∃ P, brkL m l q k = P := ⟨_, rfl⟩
          have hL2 := H1.out.2.2
          rw [hP] at hln ho hL2
          have hpre : P.length ≤ 1000000 := by omega
          have H2 := Lib.hid (And.intro ho (And.intro hb hL2))
          clear ho hb hL2 hP
          go_wp2_with (at_builtin; refine wpList_appN rfl (.tmp 44) (.tmp 45) rfl w.heap.size _ P 0 rfl wr H2.out.1 rfl rfl hpre hbase ?_)
          intro g cp w5 o5 b5
          rw [H2.out.2.2] at o5
          have HE := Lib.hid (And.intro o5 (H2.out.2.1.trans b5))
          clear o5 b5 hbase hpre
          go_wp2_with fail
          go_ret
          exact ⟨_, rfl, HE.out.1, HE.out.2⟩
end Go.Proofs.Ytflhdfbpafhjlaa
