/-
  Contract, the document's side: upTo.
-/
import Derived.Test.YtplnkmojkdbbnaaRto
import Derived.Test.YtplnkmojkdbbnaaRlo
namespace Go.Proofs.Ytplnkmojkdbbnaa
open Go.RowKit Go.Shelf Go.Lib Go.Maps Go.Sort

theorem slice_mid (b o len cap l k : Nat) (hc : l < cap) (hh : l + k ≤ cap) (W : World) :
    (Instr.slice 22 (.slice (some ⟨b, o, none⟩) len cap) (some (.int .i64 (l : Int))) (some (.int .i64 ((l : Int) + (k : Int)))) none).run Try.prog W = .ok (.slice (some ⟨b, o + l, none⟩) k (cap - l)) W := by
  have := slice_win b o len cap l (l + k) (by omega) hh hc W
  rw [Nat.add_sub_cancel_left] at this
  exact this
theorem upGo_short (N kind : Nat) (e : List Nat) : ∀ l, l.length < e.length → upGo N kind e l = ⟨kind, N, [], [], false, false⟩
  | [], _ => rfl
  | c :: t, h => by
    rw [upGo]
    have hp : e.isPrefixOf (c :: t) = false := by
      rw [Bool.eq_false_iff]
      intro hh
      have := (List.isPrefixOf_iff_prefix.1 hh).length_le
      omega
    rw [hp]
    simp at h
    exact upGo_short N kind e t (by omega)
theorem prefix_take {e l : List Nat} (h : e.length ≤ l.length) : e.isPrefixOf l = (l.take e.length == e) := by
  rw [Bool.eq_iff_iff, List.isPrefixOf_iff_prefix, beq_iff_eq, List.prefix_iff_eq_take]
  exact eq_comm
set_option maxHeartbeats 8000000 in
set_option maxRecDepth 100000 in
theorem upToC_any (b o cap : Nat) (xs : List Nat) (w : World) (hb : BY w w.heap.size xs (some ⟨b, o, none⟩) cap) (hl : xs.length ≤ 100000) :
    Calls Try.prog 23 #[.slice (some ⟨b, o, none⟩) xs.length cap, .int .i64 4, .int .i64 2, .string ⟨#[45, 45, 62]⟩] w (UpOk w (upGo xs.length 2 [45, 45, 62] (xs.drop 4))) := by
  have hcap := hb.l
  obtain ⟨T, hT⟩ : ∃ T, upGo xs.length 2 [45, 45, 62] (xs.drop 4) = T := ⟨_, rfl⟩
  rw [hT]
  have hok : ∀ (v : Value) w', v = .agg #[.int .i64 (T.kind : Int), .int .i64 (T.size : Int), .string ⟨#[]⟩, .slice none 0 0, .bool false, .bool T.closed] → Below w.heap.size w w' → UpOk w T (.returned v) w' := fun v w' h1 h2 => ⟨by rw [h1], h2⟩
  obtain ⟨Q, hQ⟩ : ∃ Q, UpOk w T = Q := ⟨_, rfl⟩
  rw [hQ] at hok ⊢
  obtain ⟨W1, hW1⟩ : ∃ W, w.alloc (.cells #[.int .i64 0, .int .i64 0, .string ⟨#[]⟩, .slice none 0 0, .bool false, .bool false] 31) = W := ⟨_, rfl⟩
  have b1 : Below w.heap.size w W1 := by rw [← hW1]; exact below_new _ _
  have x1 : Cells W1 w.heap.size 31 #[.int .i64 0, .int .i64 0, .string ⟨#[]⟩, .slice none 0 0, .bool false, .bool false] := by rw [← hW1]; exact cells_new _ _ _
  have hb1 := hb.on b1
  obtain ⟨N, hN⟩ : ∃ N, xs.length = N := ⟨_, rfl⟩
  rw [hN] at hcap hl hT ⊢
  have s0 := x1.cell 0
  have s1 := x1.cell 1
  have s2 := x1.cell 2
  have s3 := x1.cell 3
  have s4 := x1.cell 4
  have s5 := x1.cell 5
  have t0 := x1.froz 0
  have t1 := x1.froz 1
  have t2 := x1.froz 2
  have t3 := x1.froz 3
  have t4 := x1.froz 4
  have t5 := x1.froz 5
  have hg := x1.lt
  simp at s0 s1 s2 s3 s4 s5
  have HH := Lib.hid (And.intro hok (And.intro b1 (And.intro hb1 (And.intro hN hT))))
  clear hok b1 x1 hb1 hb hN hQ hT
  go_enter Try.func23, Try.ntmps23
  go_wp2_with fail
  clear hW1
  go_loopw [9] (fun i wr => ∃ j : Nat, i = .int .i64 (j : Int) ∧ j ≤ N + 4 ∧ upGo N 2 [45, 45, 62] (xs.drop j) = T ∧ wr = W1) (fun i _ => N + 10 - (RowKit.intOf i).toNat)
  case atStart => exact ⟨4, rfl, by omega, HH.out.2.2.2.2, rfl⟩
  case round =>
    obtain ⟨j, rfl, hj, hT, e⟩ := hrel
    obtain rfl := e.symm
    have e1 : IntKind.i64.wrap ((j : Int) + 3) = (j : Int) + 3 := IntWalk.i64_in _ (by omega)
    by_cases hlt : j + 3 ≤ N
    case neg =>
      have i1 : ¬ ((j : Int) + 3 ≤ (N : Int)) := by omega
      rw [upGo_short N 2 [45, 45, 62] (xs.drop j) (by rw [List.length_drop, HH.out.2.2.2.1]; simp; omega)] at hT
      have HT := Lib.hid hT
      clear hT
      go_wp2_with fail
      refine bodyPost_ret (v := .agg #[.int .i64 2, .int .i64 (N : Int), .string ⟨#[]⟩, .slice none 0 0, .bool false, .bool false]) ?_ rfl ?_
      · simp [results, Try.results23, go_sem, s0, s1, s2, s3, s4, s5, t0, t1, t2, t3, t4, t5]
      · exact HH.out.1 _ _ (by rw [← HT.out]; rfl) ((((((HH.out.2.1.setc (Nat.le_refl _) 0 _).setc (Nat.le_refl _) 1 _).setc (Nat.le_refl _) 2 _).setc (Nat.le_refl _) 3 _).setc (Nat.le_refl _) 4 _).setc (Nat.le_refl _) 5 _)
    case pos =>
      have i1 : (j : Int) + 3 ≤ (N : Int) := by omega
      have hsl : ∀ W, (Instr.slice 22 (.slice (some ⟨b, o, none⟩) N cap) (some (.int .i64 (j : Int))) (some (.int .i64 ((j : Int) + 3))) none).run Try.prog W = .ok (.slice (some ⟨b, o + j, none⟩) 3 (cap - j)) W := fun W => slice_mid b o N cap j 3 (by omega) (by omega) W
      have hwin : BY W1 W1.heap.size ((xs.drop j).take 3) (some ⟨b, o + j, none⟩) (cap - j) := (HH.out.2.2.1.dropL (by rw [HH.out.2.2.2.1]; omega)).take 3
      have htl : ((xs.drop j).take 3).length = 3 := by rw [List.length_take, List.length_drop, HH.out.2.2.2.1]; omega
      have hcv : (convert 22 9 (.slice (some ⟨b, o + j, none⟩) 3 (cap - j))).run Try.prog W1 = .ok (.string ⟨(u8s ((xs.drop j).take 3)).toArray⟩) W1 := by
        have h := conv_by hwin
        rw [htl] at h
        exact h
      have h256 : ∀ x ∈ (xs.drop j).take 3, x < 256 := hwin.i
      have hp := prefix_take (e := [45, 45, 62]) (l := xs.drop j) (by rw [List.length_drop, HH.out.2.2.2.1]; simp; omega)
      obtain ⟨x, hx⟩ := at_lt (l := xs) (k := j) (by rw [HH.out.2.2.2.1]; omega)
      have hdx := drop_at hx
      have hlen2 : (xs.drop (j + 1)).length = N - (j + 1) := by rw [List.length_drop, HH.out.2.2.2.1]
      have e2 : IntKind.i64.wrap ((j : Int) + 1) = (j : Int) + 1 := IntWalk.i64_in _ (by omega)
      by_cases htk : (xs.drop j).take 3 = [45, 45, 62]
      · have hT2 : (⟨2, j + 3, [], [], false, true⟩ : TG) = T := by
          rw [show ([45, 45, 62] : List Nat).length = 3 from rfl, htk] at hp
          rw [← hT]
          rw [hdx] at hp ⊢
          rw [upGo, hp, hlen2]
          simp
          omega
        rw [htk] at hcv
        have HT := Lib.hid hT2
        clear hT hT2 hwin htl h256 hp hx hdx hlen2 htk
        go_wp2_with fail
        refine bodyPost_ret (v := .agg #[.int .i64 2, .int .i64 ((j : Int) + 3), .string ⟨#[]⟩, .slice none 0 0, .bool false, .bool true]) ?_ rfl ?_
        · simp [results, Try.results23, go_sem, s0, s1, s2, s3, s4, s5, t0, t1, t2, t3, t4, t5]
        · exact HH.out.1 _ _ (by rw [← HT.out]; rfl) ((((((HH.out.2.1.setc (Nat.le_refl _) 0 _).setc (Nat.le_refl _) 1 _).setc (Nat.le_refl _) 2 _).setc (Nat.le_refl _) 3 _).setc (Nat.le_refl _) 4 _).setc (Nat.le_refl _) 5 _)
      · have hT2 : upGo N 2 [45, 45, 62] (xs.drop (j + 1)) = T := by
          rw [show ([45, 45, 62] : List Nat).length = 3 from rfl, beq_eq_false_iff_ne.2 htk] at hp
          rw [← hT]
          rw [hdx] at hp ⊢
          rw [upGo, hp]
          rfl
        have hne : ¬ u8s ((xs.drop j).take 3) = u8s [45, 45, 62] := fun e => htk (u8s_inj h256 (by decide) e)
        obtain ⟨SA, hSA⟩ : ∃ S : ByteArray, ⟨(u8s ((xs.drop j).take 3)).toArray⟩ = S := ⟨_, rfl⟩
        rw [hSA] at hcv
        have hl1 : (SA.toList == [45, 45, 62]) = false := by
          rw [beq_eq_false_iff_ne, ← hSA]
          intro e
          apply hne
          have : (⟨(u8s ((xs.drop j).take 3)).toArray⟩ : ByteArray).toList = u8s ((xs.drop j).take 3) := by first | exact ByteArray.toList_mk _ | simp
          rw [← this, e]
          rfl
        have HT := Lib.hid hT2
        clear hT hT2 hwin htl h256 hp hx hdx hlen2 htk hne hSA
        go_wp2_with fail
        go_roundw
        case rel => exact ⟨j + 1, by go_num, by omega, HT.out, trivial⟩
        case measure => simp [RowKit.intOf]; omega
set_option maxHeartbeats 8000000 in
set_option maxRecDepth 100000 in
theorem upToD_any (b o cap : Nat) (xs : List Nat) (w : World) (hb : BY w w.heap.size xs (some ⟨b, o, none⟩) cap) (hl : xs.length ≤ 100000) :
    Calls Try.prog 23 #[.slice (some ⟨b, o, none⟩) xs.length cap, .int .i64 2, .int .i64 3, .string ⟨#[62]⟩] w (UpOk w (upGo xs.length 3 [62] (xs.drop 2))) := by
  have hcap := hb.l
  obtain ⟨T, hT⟩ : ∃ T, upGo xs.length 3 [62] (xs.drop 2) = T := ⟨_, rfl⟩
  rw [hT]
  have hok : ∀ (v : Value) w', v = .agg #[.int .i64 (T.kind : Int), .int .i64 (T.size : Int), .string ⟨#[]⟩, .slice none 0 0, .bool false, .bool T.closed] → Below w.heap.size w w' → UpOk w T (.returned v) w' := fun v w' h1 h2 => ⟨by rw [h1], h2⟩
  obtain ⟨Q, hQ⟩ : ∃ Q, UpOk w T = Q := ⟨_, rfl⟩
  rw [hQ] at hok ⊢
  obtain ⟨W1, hW1⟩ : ∃ W, w.alloc (.cells #[.int .i64 0, .int .i64 0, .string ⟨#[]⟩, .slice none 0 0, .bool false, .bool false] 31) = W := ⟨_, rfl⟩
  have b1 : Below w.heap.size w W1 := by rw [← hW1]; exact below_new _ _
  have x1 : Cells W1 w.heap.size 31 #[.int .i64 0, .int .i64 0, .string ⟨#[]⟩, .slice none 0 0, .bool false, .bool false] := by rw [← hW1]; exact cells_new _ _ _
  have hb1 := hb.on b1
  obtain ⟨N, hN⟩ : ∃ N, xs.length = N := ⟨_, rfl⟩
  rw [hN] at hcap hl hT ⊢
  have s0 := x1.cell 0
  have s1 := x1.cell 1
  have s2 := x1.cell 2
  have s3 := x1.cell 3
  have s4 := x1.cell 4
  have s5 := x1.cell 5
  have t0 := x1.froz 0
  have t1 := x1.froz 1
  have t2 := x1.froz 2
  have t3 := x1.froz 3
  have t4 := x1.froz 4
  have t5 := x1.froz 5
  have hg := x1.lt
  simp at s0 s1 s2 s3 s4 s5
  have HH := Lib.hid (And.intro hok (And.intro b1 (And.intro hb1 (And.intro hN hT))))
  clear hok b1 x1 hb1 hb hN hQ hT
  go_enter Try.func23, Try.ntmps23
  go_wp2_with fail
  clear hW1
  go_loopw [9] (fun i wr => ∃ j : Nat, i = .int .i64 (j : Int) ∧ j ≤ N + 2 ∧ upGo N 3 [62] (xs.drop j) = T ∧ wr = W1) (fun i _ => N + 10 - (RowKit.intOf i).toNat)
  case atStart => exact ⟨2, rfl, by omega, HH.out.2.2.2.2, rfl⟩
  case round =>
    obtain ⟨j, rfl, hj, hT, e⟩ := hrel
    obtain rfl := e.symm
    have e1 : IntKind.i64.wrap ((j : Int) + 1) = (j : Int) + 1 := IntWalk.i64_in _ (by omega)
    by_cases hlt : j + 1 ≤ N
    case neg =>
      have i1 : ¬ ((j : Int) + 1 ≤ (N : Int)) := by omega
      rw [upGo_short N 3 [62] (xs.drop j) (by rw [List.length_drop, HH.out.2.2.2.1]; simp; omega)] at hT
      have HT := Lib.hid hT
      clear hT
      go_wp2_with fail
      refine bodyPost_ret (v := .agg #[.int .i64 3, .int .i64 (N : Int), .string ⟨#[]⟩, .slice none 0 0, .bool false, .bool false]) ?_ rfl ?_
      · simp [results, Try.results23, go_sem, s0, s1, s2, s3, s4, s5, t0, t1, t2, t3, t4, t5]
      · exact HH.out.1 _ _ (by rw [← HT.out]; rfl) ((((((HH.out.2.1.setc (Nat.le_refl _) 0 _).setc (Nat.le_refl _) 1 _).setc (Nat.le_refl _) 2 _).setc (Nat.le_refl _) 3 _).setc (Nat.le_refl _) 4 _).setc (Nat.le_refl _) 5 _)
    case pos =>
      have i1 : (j : Int) + 1 ≤ (N : Int) := by omega
      have hsl : ∀ W, (Instr.slice 22 (.slice (some ⟨b, o, none⟩) N cap) (some (.int .i64 (j : Int))) (some (.int .i64 ((j : Int) + 1))) none).run Try.prog W = .ok (.slice (some ⟨b, o + j, none⟩) 1 (cap - j)) W := fun W => slice_mid b o N cap j 1 (by omega) (by omega) W
      have hwin : BY W1 W1.heap.size ((xs.drop j).take 1) (some ⟨b, o + j, none⟩) (cap - j) := (HH.out.2.2.1.dropL (by rw [HH.out.2.2.2.1]; omega)).take 1
      have htl : ((xs.drop j).take 1).length = 1 := by rw [List.length_take, List.length_drop, HH.out.2.2.2.1]; omega
      have hcv : (convert 22 9 (.slice (some ⟨b, o + j, none⟩) 1 (cap - j))).run Try.prog W1 = .ok (.string ⟨(u8s ((xs.drop j).take 1)).toArray⟩) W1 := by
        have h := conv_by hwin
        rw [htl] at h
        exact h
      have h256 : ∀ x ∈ (xs.drop j).take 1, x < 256 := hwin.i
      have hp := prefix_take (e := [62]) (l := xs.drop j) (by rw [List.length_drop, HH.out.2.2.2.1]; simp; omega)
      obtain ⟨x, hx⟩ := at_lt (l := xs) (k := j) (by rw [HH.out.2.2.2.1]; omega)
      have hdx := drop_at hx
      have hlen2 : (xs.drop (j + 1)).length = N - (j + 1) := by rw [List.length_drop, HH.out.2.2.2.1]
      have e2 : IntKind.i64.wrap ((j : Int) + 1) = (j : Int) + 1 := IntWalk.i64_in _ (by omega)
      by_cases htk : (xs.drop j).take 1 = [62]
      · have hT2 : (⟨3, j + 1, [], [], false, true⟩ : TG) = T := by
          rw [show ([62] : List Nat).length = 1 from rfl, htk] at hp
          rw [← hT]
          rw [hdx] at hp ⊢
          rw [upGo, hp, hlen2]
          simp
          omega
        rw [htk] at hcv
        have HT := Lib.hid hT2
        clear hT hT2 hwin htl h256 hp hx hdx hlen2 htk
        go_wp2_with fail
        refine bodyPost_ret (v := .agg #[.int .i64 3, .int .i64 ((j : Int) + 1), .string ⟨#[]⟩, .slice none 0 0, .bool false, .bool true]) ?_ rfl ?_
        · simp [results, Try.results23, go_sem, s0, s1, s2, s3, s4, s5, t0, t1, t2, t3, t4, t5]
        · exact HH.out.1 _ _ (by rw [← HT.out]; rfl) ((((((HH.out.2.1.setc (Nat.le_refl _) 0 _).setc (Nat.le_refl _) 1 _).setc (Nat.le_refl _) 2 _).setc (Nat.le_refl _) 3 _).setc (Nat.le_refl _) 4 _).setc (Nat.le_refl _) 5 _)
      · have hT2 : upGo N 3 [62] (xs.drop (j + 1)) = T := by
          rw [show ([62] : List Nat).length = 1 from rfl, beq_eq_false_iff_ne.2 htk] at hp
          rw [← hT]
          rw [hdx] at hp ⊢
          rw [upGo, hp]
          rfl
        have hne : ¬ u8s ((xs.drop j).take 1) = u8s [62] := fun e => htk (u8s_inj h256 (by decide) e)
        obtain ⟨SA, hSA⟩ : ∃ S : ByteArray, ⟨(u8s ((xs.drop j).take 1)).toArray⟩ = S := ⟨_, rfl⟩
        rw [hSA] at hcv
        have hl1 : (SA.toList == [62]) = false := by
          rw [beq_eq_false_iff_ne, ← hSA]
          intro e
          apply hne
          have : (⟨(u8s ((xs.drop j).take 1)).toArray⟩ : ByteArray).toList = u8s ((xs.drop j).take 1) := by first | exact ByteArray.toList_mk _ | simp
          rw [← this, e]
          rfl
        have HT := Lib.hid hT2
        clear hT hT2 hwin htl h256 hp hx hdx hlen2 htk hne hSA
        go_wp2_with fail
        go_roundw
        case rel => exact ⟨j + 1, by go_num, by omega, HT.out, trivial⟩
        case measure => simp [RowKit.intOf]; omega
end Go.Proofs.Ytplnkmojkdbbnaa
