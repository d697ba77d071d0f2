/-
  Contracts: tag.readTo, for comments and declarations.
-/
import Derived.Test.YtplnkmojkdbbnaaBgn
import Derived.Test.YtplnkmojkdbbnaaRdt
namespace Go.Proofs.Ytplnkmojkdbbnaa
open Go.RowKit Go.Shelf Go.Lib Go.Maps Go.Sort

def MX (w : World) : Prop := ∃ m : Int, w.cell? ⟨0, 0, none⟩ = some (.int .i64 m)
theorem MX.on {w w' : World} {B : Nat} (h : MX w) (hB : 0 < B) (hb : Below B w w') : MX w' := by
  obtain ⟨m, hm⟩ := h
  exact ⟨m, (hb.cell (p := ⟨0, 0, none⟩) hB).trans hm⟩
theorem MX.pos {w : World} (h : MX w) : 0 < w.heap.size := by
  obtain ⟨m, hm⟩ := h
  exact cell_lt hm
theorem MX.drewN {w : World} (h : MX w) (n : Nat) : MX (w.drewN n) := h
/-- bytes.Index. -/
theorem idxB_any (w : World) (hm : MX w) (l e : List Nat) (a1 a2 : Addr) (c1 c2 B1 B2 : Nat) (h1 : BY w B1 l (some a1) c1) (h2 : BY w B2 e (some a2) c2) (hl : l.length ≤ 100000) :
    Calls Try.prog 34 #[.slice (some a1) l.length c1, .slice (some a2) e.length c2] w fun r w' => r = .returned (.int .i64 (Lib.index (u8s l) (u8s e))) ∧ ∃ q, w' = w.drewN q := by
  obtain ⟨m, hm⟩ := hm
  have cells : ∀ (xs : List Nat) (a : Addr) (c B : Nat), BY w B xs (some a) c → ∀ i, i < xs.length → w.cell? (a.add i) = some (.int .u8 ((xs.map fun (x : Nat) => (x : Int)).getD i 0)) := by
    intro xs a c B h i hi
    obtain ⟨x, hx⟩ := at_lt hi
    obtain ⟨b, o, e', _, hc⟩ := h.at hx
    injection e' with e'
    subst e'
    have ea : (Addr.mk b o none).add i = ⟨b, o + i, none⟩ := by
      unfold Addr.add
      by_cases h0 : i = 0 <;> simp [h0]
    rw [ea, hc]
    have : (xs.map (fun (x : Nat) => (x : Int))).getD i 0 = (x : Int) := by
      rw [List.getD_eq_getElem?_getD, List.getElem?_map, hx]; rfl
    rw [this]
  have rng : ∀ (xs : List Nat), (∀ x ∈ xs, x < 256) → ∀ x ∈ (xs.map fun (x : Nat) => (x : Int)), 0 ≤ x ∧ x < 256 := by
    intro xs h x hx
    obtain ⟨y, hy, rfl⟩ := List.mem_map.1 hx
    have := h y hy
    omega
  have C := Try.bytes_Index_at a1 a2 l.length c1 e.length c2 _ _ m w (by simp) (by simp) (rng l h1.i) (rng e h2.i) (cells l a1 c1 B1 h1) (cells e a2 c2 B2 h2) h1.l (by omega) (by have := h2.len; omega) hm
  rw [bytesOf_cast, bytesOf_cast] at C
  exact C
/-- A mark without a name. -/
def UpOk (w : World) (T : TG) (e : Ending) (w' : World) : Prop := e = .returned (.agg #[.int .i64 (T.kind : Int), .int .i64 (T.size : Int), .string ⟨#[]⟩, .slice none 0 0, .bool false, .bool T.closed]) ∧ Below w.heap.size w w'
set_option maxHeartbeats 4000000 in
set_option maxRecDepth 100000 in
theorem readToC_any (b o cap : Nat) (xs : List Nat) (w : World) (hm : MX w) (hb : BY w w.heap.size xs (some ⟨b, o, none⟩) cap) (hf : 4 ≤ xs.length) (hl : xs.length ≤ 100000) :
    Calls Try.prog 21 #[.string ⟨#[45, 45, 62]⟩, .int .i64 2, .slice (some ⟨b, o, none⟩) xs.length cap, .int .i64 4] w (UpOk w (upGo xs.length 2 [45, 45, 62] (xs.drop 4))) := by
  have hcap := hb.l
  have hmx := hb.m
  have hmx0 := hb.m
  unfold maxLen at hmx
  have b1 := below_new w (.cells #[.int .i64 0, .int .i64 0, .string ⟨#[]⟩, .slice none 0 0, .bool false, .bool false] 26)
  obtain ⟨cp, W4, hcv0, hR, hb4⟩ := conv_str (w.alloc (.cells #[.int .i64 0, .int .i64 0, .string ⟨#[]⟩, .slice none 0 0, .bool false, .bool false] 26)) [45, 45, 62] (by decide) (by decide)
  have hcv : (convert 9 22 (.string ⟨#[45, 45, 62]⟩)).run Try.prog (w.alloc (.cells #[.int .i64 0, .int .i64 0, .string ⟨#[]⟩, .slice none 0 0, .bool false, .bool false] 26)) = .ok (.slice (some ⟨w.heap.size + 1, 0, none⟩) 3 cp) W4 := by
    have h := hcv0
    rw [World.size_alloc] at h
    exact h
  rw [World.size_alloc] at hR hb4
  have b4 : Below w.heap.size w W4 := b1.trans (hb4.mono (by omega))
  have x4 : Cells W4 w.heap.size 26 #[.int .i64 0, .int .i64 0, .string ⟨#[]⟩, .slice none 0 0, .bool false, .bool false] := (hb4.block _ (by omega)).trans (cells_new w _ _)
  have hm4 : MX W4 := hm.on hm.pos b4
  have hy4 := hb.on b4
  have hz4 := hR.by
  have hdl : (xs.drop 4).length = xs.length - 4 := by simp
  have hU := up_index xs.length 2 [45, 45, 62] (by simp) (by decide) (xs.drop 4) (fun x hx => hb.i x (List.mem_of_mem_drop hx)) (by simp)
  rw [hdl] at hU
  obtain ⟨T, hT⟩ : ∃ T, upGo xs.length 2 [45, 45, 62] (xs.drop 4) = T := ⟨_, rfl⟩
  rw [hT] at hU ⊢
  have hok : ∀ (v : Value) w', v = .agg #[.int .i64 (T.kind : Int), .int .i64 (T.size : Int), .string ⟨#[]⟩, .slice none 0 0, .bool false, .bool T.closed] → Below w.heap.size w w' → UpOk w T (.returned v) w' := fun v w' h1 h2 => ⟨by rw [h1], h2⟩
  have CI : ∀ (a : Addr) (c M : Nat), M = xs.length - 4 → BY W4 W4.heap.size (xs.drop 4) (some a) c → Calls Try.prog 34 #[.slice (some a) M c, .slice (some ⟨w.heap.size + 1, 0, none⟩) 3 cp] W4 fun r w' => r = .returned (.int .i64 (Lib.index (u8s (xs.drop 4)) (u8s [45, 45, 62]))) ∧ ∃ q, w' = W4.drewN q := fun a c M hM h => by
    subst hM
    have := idxB_any W4 hm4 (xs.drop 4) [45, 45, 62] a _ c cp _ _ h hz4 (by simp; omega)
    rw [hdl] at this
    exact this
  obtain ⟨Q, hQ⟩ : ∃ Q, UpOk w T = Q := ⟨_, rfl⟩
  rw [hQ] at hok ⊢
  have s0 := x4.cell 0
  have s1 := x4.cell 1
  have s2 := x4.cell 2
  have s3 := x4.cell 3
  have s4 := x4.cell 4
  have s5 := x4.cell 5
  have t0 := x4.froz 0
  have t1 := x4.froz 1
  have t2 := x4.froz 2
  have t3 := x4.froz 3
  have t4 := x4.froz 4
  have t5 := x4.froz 5
  simp at s0 s1 s2 s3 s4 s5
  have hsz : w.heap.size < W4.heap.size := x4.lt
  obtain ⟨I, hI⟩ : ∃ I, Lib.index (u8s (xs.drop 4)) (u8s [45, 45, 62]) = I := ⟨_, rfl⟩
  rw [hI] at hU CI
  have hdr : 4 < xs.length → BY W4 W4.heap.size (xs.drop 4) (some ⟨b, o + 4, none⟩) (cap - 4) := fun h => hy4.dropL (Nat.le_of_lt h)
  have hd0 : xs.length = 4 → ∀ (a : Addr) (c : Nat), c ≤ maxLen → BY W4 W4.heap.size (xs.drop 4) (some a) c := fun h a c hc => by
    rw [List.drop_of_length_le (by omega)]
    exact by_empty _ _ _ hc
  have HH := Lib.hid (And.intro CI (And.intro hok (And.intro b4 (And.intro hdr hd0))))
  clear CI hok b4 hy4 hz4 hR hb4 hm4 x4 b1 hcv0 hT hQ hm hb hdl hI hdr hd0
  generalize xs.length = N at *
  by_cases hlt : 4 < N
  · have hB := Lib.hid (HH.out.2.2.2.1 hlt)
    rcases hU with ⟨hU1, hU2⟩ | ⟨kk, hU1, hU2, hU3⟩
    · subst hU1
      have HU := Lib.hid hU2
      clear hU2
      go_enter Try.func21, Try.ntmps21
      go_wp2_with fail
      all_goals
        refine (HH.out.1 _ _ _ (by omega) hB.out).mono ?_
        rintro r w5 ⟨rfl, qq, e5⟩
        obtain rfl := e5.symm
        go_wp2_with fail
        refine bodyPost_ret (v := .agg #[.int .i64 2, .int .i64 (N : Int), .string ⟨#[]⟩, .slice none 0 0, .bool false, .bool false]) ?_ rfl ?_
        · simp [results, Try.results21, go_sem, s0, s1, s2, s3, s4, s5]
        · exact HH.out.2.1 _ _ (by rw [HU.out]; rfl) (((((((HH.out.2.2.1).trans (below_drewN (Below.refl _ _) qq)).setc (Nat.le_refl _) 0 _).setc (Nat.le_refl _) 1 _).setc (Nat.le_refl _) 2 _).setc (Nat.le_refl _) 3 _).setc (Nat.le_refl _) 4 _ |>.setc (Nat.le_refl _) 5 _)
    · subst hU1
      have i9 : ¬ (kk : Int) < 0 := by omega
      have e1 : IntKind.i64.wrap (4 + (kk : Int)) = 4 + (kk : Int) := IntWalk.i64_in _ (by omega)
      have e2 : IntKind.i64.wrap (4 + (kk : Int) + 3) = 4 + (kk : Int) + 3 := IntWalk.i64_in _ (by omega)
      have hsz2 : ((N - (N - 4) + kk + 3 : Nat) : Int) = 4 + (kk : Int) + 3 := by omega
      have HU := Lib.hid (And.intro hU2 hsz2)
      clear hU2 hsz2
      go_enter Try.func21, Try.ntmps21
      go_wp2_with fail
      all_goals
        refine (HH.out.1 _ _ _ (by omega) hB.out).mono ?_
        rintro r w5 ⟨rfl, qq, e5⟩
        obtain rfl := e5.symm
        go_wp2_with fail
        refine bodyPost_ret (v := .agg #[.int .i64 2, .int .i64 (4 + (kk : Int) + 3), .string ⟨#[]⟩, .slice none 0 0, .bool false, .bool true]) ?_ rfl ?_
        · simp [results, Try.results21, go_sem, s0, s1, s2, s3, s4, s5]
        · exact HH.out.2.1 _ _ (by rw [HU.out.1, ← HU.out.2]; rfl) (((((((HH.out.2.2.1).trans (below_drewN (Below.refl _ _) qq)).setc (Nat.le_refl _) 0 _).setc (Nat.le_refl _) 1 _).setc (Nat.le_refl _) 2 _).setc (Nat.le_refl _) 3 _).setc (Nat.le_refl _) 4 _ |>.setc (Nat.le_refl _) 5 _)
  · have hN : N = 4 := by omega
    have hB := Lib.hid (HH.out.2.2.2.2 hN)
    have hmx0 := Lib.hid hmx0
    have hN2 := Lib.hid hN
    clear hN
    rcases hU with ⟨hU1, hU2⟩ | ⟨kk, hU1, hU2, hU3⟩
    · subst hU1
      have HU := Lib.hid hU2
      clear hU2
      go_enter Try.func21, Try.ntmps21
      go_wp2_with fail
      all_goals
        refine (HH.out.1 _ _ _ (by omega) (hB.out _ _ (by first | exact Nat.zero_le _ | (unfold maxLen; omega)))).mono ?_
        rintro r w5 ⟨rfl, qq, e5⟩
        obtain rfl := e5.symm
        go_wp2_with fail
        refine bodyPost_ret (v := .agg #[.int .i64 2, .int .i64 (N : Int), .string ⟨#[]⟩, .slice none 0 0, .bool false, .bool false]) ?_ rfl ?_
        · simp [results, Try.results21, go_sem, s0, s1, s2, s3, s4, s5]
        · exact HH.out.2.1 _ _ (by rw [HU.out]; rfl) (((((((HH.out.2.2.1).trans (below_drewN (Below.refl _ _) qq)).setc (Nat.le_refl _) 0 _).setc (Nat.le_refl _) 1 _).setc (Nat.le_refl _) 2 _).setc (Nat.le_refl _) 3 _).setc (Nat.le_refl _) 4 _ |>.setc (Nat.le_refl _) 5 _)
    · subst hU1
      have i9 : ¬ (kk : Int) < 0 := by omega
      have e1 : IntKind.i64.wrap (4 + (kk : Int)) = 4 + (kk : Int) := IntWalk.i64_in _ (by omega)
      have e2 : IntKind.i64.wrap (4 + (kk : Int) + 3) = 4 + (kk : Int) + 3 := IntWalk.i64_in _ (by omega)
      have hsz2 : ((N - (N - 4) + kk + 3 : Nat) : Int) = 4 + (kk : Int) + 3 := by omega
      have HU := Lib.hid (And.intro hU2 hsz2)
      clear hU2 hsz2
      go_enter Try.func21, Try.ntmps21
      go_wp2_with fail
      all_goals
        refine (HH.out.1 _ _ _ (by omega) (hB.out _ _ (by first | exact Nat.zero_le _ | (unfold maxLen; omega)))).mono ?_
        rintro r w5 ⟨rfl, qq, e5⟩
        obtain rfl := e5.symm
        go_wp2_with fail
        refine bodyPost_ret (v := .agg #[.int .i64 2, .int .i64 (4 + (kk : Int) + 3), .string ⟨#[]⟩, .slice none 0 0, .bool false, .bool true]) ?_ rfl ?_
        · simp [results, Try.results21, go_sem, s0, s1, s2, s3, s4, s5]
        · exact HH.out.2.1 _ _ (by rw [HU.out.1, ← HU.out.2]; rfl) (((((((HH.out.2.2.1).trans (below_drewN (Below.refl _ _) qq)).setc (Nat.le_refl _) 0 _).setc (Nat.le_refl _) 1 _).setc (Nat.le_refl _) 2 _).setc (Nat.le_refl _) 3 _).setc (Nat.le_refl _) 4 _ |>.setc (Nat.le_refl _) 5 _)
set_option maxHeartbeats 4000000 in
set_option maxRecDepth 100000 in
theorem readToD_any (b o cap : Nat) (xs : List Nat) (w : World) (hm : MX w) (hb : BY w w.heap.size xs (some ⟨b, o, none⟩) cap) (hf : 1 ≤ xs.length) (hl : xs.length ≤ 100000) :
    Calls Try.prog 21 #[.string ⟨#[62]⟩, .int .i64 3, .slice (some ⟨b, o, none⟩) xs.length cap, .int .i64 1] w (UpOk w (upGo xs.length 3 [62] (xs.drop 1))) := by
  have hcap := hb.l
  have hmx := hb.m
  have hmx0 := hb.m
  unfold maxLen at hmx
  have b1 := below_new w (.cells #[.int .i64 0, .int .i64 0, .string ⟨#[]⟩, .slice none 0 0, .bool false, .bool false] 26)
  obtain ⟨cp, W4, hcv0, hR, hb4⟩ := conv_str (w.alloc (.cells #[.int .i64 0, .int .i64 0, .string ⟨#[]⟩, .slice none 0 0, .bool false, .bool false] 26)) [62] (by decide) (by decide)
  have hcv : (convert 9 22 (.string ⟨#[62]⟩)).run Try.prog (w.alloc (.cells #[.int .i64 0, .int .i64 0, .string ⟨#[]⟩, .slice none 0 0, .bool false, .bool false] 26)) = .ok (.slice (some ⟨w.heap.size + 1, 0, none⟩) 1 cp) W4 := by
    have h := hcv0
    rw [World.size_alloc] at h
    exact h
  rw [World.size_alloc] at hR hb4
  have b4 : Below w.heap.size w W4 := b1.trans (hb4.mono (by omega))
  have x4 : Cells W4 w.heap.size 26 #[.int .i64 0, .int .i64 0, .string ⟨#[]⟩, .slice none 0 0, .bool false, .bool false] := (hb4.block _ (by omega)).trans (cells_new w _ _)
  have hm4 : MX W4 := hm.on hm.pos b4
  have hy4 := hb.on b4
  have hz4 := hR.by
  have hdl : (xs.drop 1).length = xs.length - 1 := by simp
  have hU := up_index xs.length 3 [62] (by simp) (by decide) (xs.drop 1) (fun x hx => hb.i x (List.mem_of_mem_drop hx)) (by simp)
  rw [hdl] at hU
  obtain ⟨T, hT⟩ : ∃ T, upGo xs.length 3 [62] (xs.drop 1) = T := ⟨_, rfl⟩
  rw [hT] at hU ⊢
  have hok : ∀ (v : Value) w', v = .agg #[.int .i64 (T.kind : Int), .int .i64 (T.size : Int), .string ⟨#[]⟩, .slice none 0 0, .bool false, .bool T.closed] → Below w.heap.size w w' → UpOk w T (.returned v) w' := fun v w' h1 h2 => ⟨by rw [h1], h2⟩
  have CI : ∀ (a : Addr) (c M : Nat), M = xs.length - 1 → BY W4 W4.heap.size (xs.drop 1) (some a) c → Calls Try.prog 34 #[.slice (some a) M c, .slice (some ⟨w.heap.size + 1, 0, none⟩) 1 cp] W4 fun r w' => r = .returned (.int .i64 (Lib.index (u8s (xs.drop 1)) (u8s [62]))) ∧ ∃ q, w' = W4.drewN q := fun a c M hM h => by
    subst hM
    have := idxB_any W4 hm4 (xs.drop 1) [62] a _ c cp _ _ h hz4 (by simp; omega)
    rw [hdl] at this
    exact this
  obtain ⟨Q, hQ⟩ : ∃ Q, UpOk w T = Q := ⟨_, rfl⟩
  rw [hQ] at hok ⊢
  have s0 := x4.cell 0
  have s1 := x4.cell 1
  have s2 := x4.cell 2
  have s3 := x4.cell 3
  have s4 := x4.cell 4
  have s5 := x4.cell 5
  have t0 := x4.froz 0
  have t1 := x4.froz 1
  have t2 := x4.froz 2
  have t3 := x4.froz 3
  have t4 := x4.froz 4
  have t5 := x4.froz 5
  simp at s0 s1 s2 s3 s4 s5
  have hsz : w.heap.size < W4.heap.size := x4.lt
  obtain ⟨I, hI⟩ : ∃ I, Lib.index (u8s (xs.drop 1)) (u8s [62]) = I := ⟨_, rfl⟩
  rw [hI] at hU CI
  have hdr : 1 < xs.length → BY W4 W4.heap.size (xs.drop 1) (some ⟨b, o + 1, none⟩) (cap - 1) := fun h => hy4.dropL (Nat.le_of_lt h)
  have hd0 : xs.length = 1 → ∀ (a : Addr) (c : Nat), c ≤ maxLen → BY W4 W4.heap.size (xs.drop 1) (some a) c := fun h a c hc => by
    rw [List.drop_of_length_le (by omega)]
    exact by_empty _ _ _ hc
  have HH := Lib.hid (And.intro CI (And.intro hok (And.intro b4 (And.intro hdr hd0))))
  clear CI hok b4 hy4 hz4 hR hb4 hm4 x4 b1 hcv0 hT hQ hm hb hdl hI hdr hd0
  generalize xs.length = N at *
  by_cases hlt : 1 < N
  · have hB := Lib.hid (HH.out.2.2.2.1 hlt)
    rcases hU with ⟨hU1, hU2⟩ | ⟨kk, hU1, hU2, hU3⟩
    · subst hU1
      have HU := Lib.hid hU2
      clear hU2
      go_enter Try.func21, Try.ntmps21
      go_wp2_with fail
      all_goals
        refine (HH.out.1 _ _ _ (by omega) hB.out).mono ?_
        rintro r w5 ⟨rfl, qq, e5⟩
        obtain rfl := e5.symm
        go_wp2_with fail
        refine bodyPost_ret (v := .agg #[.int .i64 3, .int .i64 (N : Int), .string ⟨#[]⟩, .slice none 0 0, .bool false, .bool false]) ?_ rfl ?_
        · simp [results, Try.results21, go_sem, s0, s1, s2, s3, s4, s5]
        · exact HH.out.2.1 _ _ (by rw [HU.out]; rfl) (((((((HH.out.2.2.1).trans (below_drewN (Below.refl _ _) qq)).setc (Nat.le_refl _) 0 _).setc (Nat.le_refl _) 1 _).setc (Nat.le_refl _) 2 _).setc (Nat.le_refl _) 3 _).setc (Nat.le_refl _) 4 _ |>.setc (Nat.le_refl _) 5 _)
    · subst hU1
      have i9 : ¬ (kk : Int) < 0 := by omega
      have e1 : IntKind.i64.wrap (1 + (kk : Int)) = 1 + (kk : Int) := IntWalk.i64_in _ (by omega)
      have e2 : IntKind.i64.wrap (1 + (kk : Int) + 1) = 1 + (kk : Int) + 1 := IntWalk.i64_in _ (by omega)
      have hsz2 : ((N - (N - 1) + kk + 1 : Nat) : Int) = 1 + (kk : Int) + 1 := by omega
      have HU := Lib.hid (And.intro hU2 hsz2)
      clear hU2 hsz2
      go_enter Try.func21, Try.ntmps21
      go_wp2_with fail
      all_goals
        refine (HH.out.1 _ _ _ (by omega) hB.out).mono ?_
        rintro r w5 ⟨rfl, qq, e5⟩
        obtain rfl := e5.symm
        go_wp2_with fail
        refine bodyPost_ret (v := .agg #[.int .i64 3, .int .i64 (1 + (kk : Int) + 1), .string ⟨#[]⟩, .slice none 0 0, .bool false, .bool true]) ?_ rfl ?_
        · simp [results, Try.results21, go_sem, s0, s1, s2, s3, s4, s5]
        · exact HH.out.2.1 _ _ (by rw [HU.out.1, ← HU.out.2]; rfl) (((((((HH.out.2.2.1).trans (below_drewN (Below.refl _ _) qq)).setc (Nat.le_refl _) 0 _).setc (Nat.le_refl _) 1 _).setc (Nat.le_refl _) 2 _).setc (Nat.le_refl _) 3 _).setc (Nat.le_refl _) 4 _ |>.setc (Nat.le_refl _) 5 _)
  · have hN : N = 1 := by omega
    have hB := Lib.hid (HH.out.2.2.2.2 hN)
    have hmx0 := Lib.hid hmx0
    have hN2 := Lib.hid hN
    clear hN
    rcases hU with ⟨hU1, hU2⟩ | ⟨kk, hU1, hU2, hU3⟩
    · subst hU1
      have HU := Lib.hid hU2
      clear hU2
      go_enter Try.func21, Try.ntmps21
      go_wp2_with fail
      all_goals
        refine (HH.out.1 _ _ _ (by omega) (hB.out _ _ (by first | exact Nat.zero_le _ | (unfold maxLen; omega)))).mono ?_
        rintro r w5 ⟨rfl, qq, e5⟩
        obtain rfl := e5.symm
        go_wp2_with fail
        refine bodyPost_ret (v := .agg #[.int .i64 3, .int .i64 (N : Int), .string ⟨#[]⟩, .slice none 0 0, .bool false, .bool false]) ?_ rfl ?_
        · simp [results, Try.results21, go_sem, s0, s1, s2, s3, s4, s5]
        · exact HH.out.2.1 _ _ (by rw [HU.out]; rfl) (((((((HH.out.2.2.1).trans (below_drewN (Below.refl _ _) qq)).setc (Nat.le_refl _) 0 _).setc (Nat.le_refl _) 1 _).setc (Nat.le_refl _) 2 _).setc (Nat.le_refl _) 3 _).setc (Nat.le_refl _) 4 _ |>.setc (Nat.le_refl _) 5 _)
    · subst hU1
      have i9 : ¬ (kk : Int) < 0 := by omega
      have e1 : IntKind.i64.wrap (1 + (kk : Int)) = 1 + (kk : Int) := IntWalk.i64_in _ (by omega)
      have e2 : IntKind.i64.wrap (1 + (kk : Int) + 1) = 1 + (kk : Int) + 1 := IntWalk.i64_in _ (by omega)
      have hsz2 : ((N - (N - 1) + kk + 1 : Nat) : Int) = 1 + (kk : Int) + 1 := by omega
      have HU := Lib.hid (And.intro hU2 hsz2)
      clear hU2 hsz2
      go_enter Try.func21, Try.ntmps21
      go_wp2_with fail
      all_goals
        refine (HH.out.1 _ _ _ (by omega) (hB.out _ _ (by first | exact Nat.zero_le _ | (unfold maxLen; omega)))).mono ?_
        rintro r w5 ⟨rfl, qq, e5⟩
        obtain rfl := e5.symm
        go_wp2_with fail
        refine bodyPost_ret (v := .agg #[.int .i64 3, .int .i64 (1 + (kk : Int) + 1), .string ⟨#[]⟩, .slice none 0 0, .bool false, .bool true]) ?_ rfl ?_
        · simp [results, Try.results21, go_sem, s0, s1, s2, s3, s4, s5]
        · exact HH.out.2.1 _ _ (by rw [HU.out.1, ← HU.out.2]; rfl) (((((((HH.out.2.2.1).trans (below_drewN (Below.refl _ _) qq)).setc (Nat.le_refl _) 0 _).setc (Nat.le_refl _) 1 _).setc (Nat.le_refl _) 2 _).setc (Nat.le_refl _) 3 _).setc (Nat.le_refl _) 4 _ |>.setc (Nat.le_refl _) 5 _)
end Go.Proofs.Ytplnkmojkdbbnaa
