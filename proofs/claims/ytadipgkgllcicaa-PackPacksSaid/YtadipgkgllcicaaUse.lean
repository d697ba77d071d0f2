/-
  Contract: (*slots).use.
-/
import Derived.Test.YtadipgkgllcicaaUsu
namespace Go.Proofs.Ytadipgkgllcicaa
open Go.RowKit Go.Shelf Go.Lib Go.Maps

theorem Fz.drew {X : Nat → Prop} {a b : World} (h : Fz X a b) : Fz X a b.drew := ⟨h.os, h.tape, h.output, h.size, h.block⟩
theorem info62 : (Try.prog.info? 62).map (fun i => (i.zero, i.size, i.bytes)) = some (some (.int .u64 0), 1, 8) := by kernel_rfl
/-- The words in memory. -/
structure UsM (w : World) (ub B : Nat) (T : List Nat) (v : Value) : Prop where
  c : Cells w ub 51 #[v]
  o : w.ownsRow B 62 1 v T.length (u64C T)
  lt : ub < B
  b : ∀ x ∈ T, x < 2 ^ 64
theorem UsM.drew {w : World} {ub B : Nat} {T : List Nat} {v : Value} (h : UsM w ub B T v) : UsM w.drew ub B T v := ⟨h.c, h.o, h.lt, h.b⟩
theorem own_form {w : World} {B e z n : Nat} {v : Value} {xs : List Value} (h : w.ownsRow B e z v n xs) : ∃ A cap, v = .slice A n cap := by
  rcases h.2 with ⟨h1, h2⟩ | ⟨g, cap, cur, h1, _⟩
  · subst h2; exact ⟨none, 0, h1⟩
  · exact ⟨_, _, h1⟩
theorem own_pos {w : World} {B e z n : Nat} {v : Value} {xs : List Value} (h : w.ownsRow B e z v n xs) (hn : 0 < n) : ∃ g cap, v = .slice (some ⟨g, 0, none⟩) n cap ∧ B ≤ g ∧ n ≤ cap ∧ g < w.heap.size := by
  rcases h.2 with ⟨h1, h2⟩ | ⟨g, cap, cur, h1, h2, h3, h4, _⟩
  · omega
  · exact ⟨g, cap, h1, h2, h4, (Array.getElem?_eq_some_iff.1 h3).1⟩
def lenOf : Option Value → Nat
  | some (.slice _ n _) => n
  | _ => 0
theorem u64C_set (T : List Nat) (i x : Nat) : u64C (T.set i x) = (u64C T).set i (.int .u64 (x : Int)) := by simp [u64C, List.map_set]
theorem u64C_get {T : List Nat} {i x : Nat} (h : T[i]? = some x) : (u64C T)[i]? = some (.int .u64 (x : Int)) := by simp [u64C, h]
theorem UsM.grow {w w' : World} {ub B g cap : Nat} {T : List Nat} {v : Value} {o : Obj} (h : UsM w ub B T v) (ho : w'.ownsRow B 62 1 (.slice (some ⟨g, 0, none⟩) (T.length + 1) cap) (T.length + 1) (u64C T ++ [.int .u64 0]))
    (hg : (w.alloc o).grownBy w' v.ownBlock) : Cells w' ub 51 #[v] ∧ UsM (w'.setCell ⟨ub, 0, none⟩ (.slice (some ⟨g, 0, none⟩) (T.length + 1) cap)) ub B (T ++ [0]) (.slice (some ⟨g, 0, none⟩) (T.length + 1) cap) := by
  have hl := h.lt
  have hc := h.c.lt
  have hbg := (own_block_lt ho g rfl).1
  have c1 : Cells w' ub 51 #[v] := (hg.block ub (by simp; omega) (fun e => by have := (own_block_lt h.o ub e.symm).1; omega)).trans ((below_new w o).block ub hc |>.trans h.c)
  refine ⟨c1, c1.set 0 _, ?_, hl, fun x hx => ?_⟩
  · rw [List.length_append, u64C_snoc]
    exact ownsRow_setCell_below ho (by show ub < B; exact hl) _
  · rcases List.mem_append.1 hx with e | e
    · exact h.b x e
    · simp at e; subst e; decide
theorem fz_grow {w0 w w' : World} {X : Nat → Prop} {v v0 : Value} {o : Obj} (h : Fz X w0 w) (hg : (w.alloc o).grownBy w' v.ownBlock) (hv : v.ownBlock = v0.ownBlock ∨ ∃ g, v.ownBlock = some g ∧ w0.heap.size ≤ g) (hX : ∀ k, v0.ownBlock = some k → X k) : Fz X w0 w' := by
  have hs : w.heap.size < (w.alloc o).heap.size := by simp
  refine ⟨hg.os.trans h.os, hg.tape.trans h.tape, hg.output.trans h.output, by have := h.size; have := hg.size; omega, fun k hk hn => ?_⟩
  have hkw : k < w.heap.size := Nat.lt_of_lt_of_le hk h.size
  refine (hg.block k (by omega) (fun e => ?_)).trans (((below_new w o).block k hkw).trans (h.block k hk hn))
  rcases hv with e2 | ⟨g, e2, h2⟩
  · exact hn (hX k (e2.symm.trans e.symm))
  · rw [e2] at e; injection e with e; omega
theorem fz_set {w0 w : World} {X : Nat → Prop} (h : Fz X w0 w) (b i : Nat) (v : Value) (hb : X b ∨ w0.heap.size ≤ b) : Fz X w0 (w.setCell ⟨b, i, none⟩ v) :=
  ⟨h.os, h.tape, h.output, by have := h.size; simp; omega, fun k hk hn => by
    have hne : k ≠ b := fun e => by rcases hb with e2 | e2; exact hn (e ▸ e2); omega
    have := h.block k hk hn
    rw [← this]
    exact Below.heap_setCell _ _ _ _ hne⟩
set_option maxHeartbeats 4000000 in
set_option maxRecDepth 100000 in
theorem use_any (ub B : Nat) (T : List Nat) (v0 : Value) (base m : Nat) (hm : m < 18446744073709551616) (hb : base < 100000) (hT : T.length ≤ 10000) (w : World) (h : UsM w ub B T v0) (hB : B ≤ w.heap.size) :
    Calls Try.prog 36 #[.pointer (some ⟨ub, 0, none⟩), .int .i64 (base : Int), .int .u64 (m : Int)] w fun r w' => r = .returned (.tuple #[]) ∧ ∃ v, UsM w' ub B (useR T base m) v ∧ Fz (fun k => k = ub ∨ v0.ownBlock = some k) w w' := by
  obtain ⟨q, b, hb64, hqb⟩ : ∃ q b : Nat, b < 64 ∧ base = 64 * q + b := ⟨base / 64, base % 64, Nat.mod_lt _ (by omega), by omega⟩
  have hq : q < 2000 := by omega
  have e1 : (base : Int) / 64 = (q : Int) := by omega
  have e2 : (base : Int) % 64 = (b : Int) := by omega
  have hU : useR T base m = ((padTo (q + 2) T 0).set q (T.getD q 0 ||| (m * 2 ^ b) % 2 ^ 64)).set (q + 1) (T.getD (q + 1) 0 ||| m / 2 ^ (64 - b)) := by
    unfold useR
    rw [show base / 64 = q by omega, show base % 64 = b by omega]
  have hU2 := useR_lt (T := T) (fun x hx => h.b x hx) (base := base) (m := m) hm
  have R0 : UsM w ub B T v0 ∧ Fz (fun k => k = ub ∨ v0.ownBlock = some k) w w := ⟨h, Fz.refl _ _⟩
  have hlt := h.c.lt
  obtain ⟨i62, h62, z62, s62, b62⟩ := info_parts info62
  have I62 := Lib.hid (And.intro h62 (And.intro z62 (And.intro s62 b62)))
  have H := Lib.hid (And.intro R0 (And.intro e1 (And.intro e2 (And.intro hU (And.intro hU2 (And.intro hB hT))))))
  clear h R0 e1 e2 hU hU2 hB hqb hT h62 z62 s62 b62
  go_enter Try.func36, Try.ntmps36
  go_wp2_with fail
  rw [H.out.2.1, H.out.2.2.1]
  go_loopw [] (fun wr => ∃ T1 v, T1.length ≤ max T.length (q + 2) ∧ padTo (q + 2) T1 0 = padTo (q + 2) T 0 ∧ (∀ j, T1.getD j 0 = T.getD j 0) ∧ UsM wr ub B T1 v ∧ Fz (fun k => k = ub ∨ v0.ownBlock = some k) w wr ∧ (v.ownBlock = v0.ownBlock ∨ ∃ g, v.ownBlock = some g ∧ w.heap.size ≤ g)) (fun wr => q + 2 - lenOf (wr.cell? ⟨ub, 0, none⟩))
  case atStart => exact ⟨T, v0, by omega, rfl, fun _ => rfl, H.out.1.1, H.out.1.2, .inl rfl⟩
  case round =>
    obtain ⟨T1, v, hl, hp, hg, hM, hF, hO⟩ := hrel
    obtain ⟨A, cap, hv⟩ := own_form hM.o
    subst hv
    have hbb := hM.c.lt
    by_cases hlt2 : T1.length < q + 2
    · have c0 := hM.c.cell 0
      have f0 := hM.c.froz 0
      have hMB := hM.o
      have hms : lenOf (wr.cell? ⟨ub, 0, none⟩) = T1.length := by rw [c0]; rfl
      have hBs : B ≤ wr.heap.size := by have := hF.size; have := H.out.2.2.2.2.2.1; omega
      have o3 : (wr.alloc (.cells #[.int .u64 0] 62)).ownsRow B 62 1 (.slice A T1.length cap) T1.length (u64C T1) := hM.o.alloc _
      have hnew : (wr.alloc (.cells #[.int .u64 0] 62)).cell? ⟨wr.heap.size, 0, none⟩ = some (.int .u64 0) := by rw [World.cell?_alloc_new]; rfl
      have hlen : T1.length ≤ 100000 := by have := H.out.2.2.2.2.2.2; omega
      have hend : ∀ g cp w4, w4.ownsRow B 62 1 (.slice (some ⟨g, 0, none⟩) (T1.length + 1) cp) (T1.length + 1) (u64C T1 ++ [.int .u64 0]) → (wr.alloc (.cells #[.int .u64 0] 62)).grownBy w4 (Value.slice A T1.length cap).ownBlock → ((Value.slice A T1.length cap).ownBlock = some g ∨ g = wr.heap.size + 1) →
          w4.cell? ⟨ub, 0, none⟩ = some (.slice A T1.length cap) ∧ w4.frozen? ⟨ub, 0, none⟩ = false ∧ lenOf ((w4.setCell ⟨ub, 0, none⟩ (.slice (some ⟨g, 0, none⟩) (T1.length + 1) cp)).cell? ⟨ub, 0, none⟩) = T1.length + 1 ∧ ∃ T2 v', T2.length ≤ max T.length (q + 2) ∧ padTo (q + 2) T2 0 = padTo (q + 2) T 0 ∧ (∀ j, T2.getD j 0 = T.getD j 0) ∧
            UsM (w4.setCell ⟨ub, 0, none⟩ (.slice (some ⟨g, 0, none⟩) (T1.length + 1) cp)) ub B T2 v' ∧ Fz (fun k => k = ub ∨ v0.ownBlock = some k) w (w4.setCell ⟨ub, 0, none⟩ (.slice (some ⟨g, 0, none⟩) (T1.length + 1) cp)) ∧ (v'.ownBlock = v0.ownBlock ∨ ∃ g, v'.ownBlock = some g ∧ w.heap.size ≤ g) := fun g cp w4 h1 h2 h3 => by
        obtain ⟨k1, k2⟩ := hM.grow h1 h2
        refine ⟨k1.cell 0, k1.froz 0, by rw [k2.c.cell 0]; rfl, T1 ++ [0], _, by simp; omega, by rw [padTo_snoc _ _ _ hlt2]; exact hp, fun j => ?_, k2, ?_, ?_⟩
        · rw [← hg j, List.getD_eq_getElem?_getD, List.getD_eq_getElem?_getD]
          by_cases hj : j < T1.length
          · rw [List.getElem?_append_left hj]
          · rw [List.getElem?_append_right (by omega), List.getElem?_eq_none (show T1.length ≤ j by omega)]
            cases hjj : j - T1.length with
            | zero => simp
            | succ t => simp
        · exact fz_set (fz_grow hF h2 hO (fun k hk => .inr hk)) ub 0 _ (.inl (.inl rfl))
        · rcases h3 with e | e
          · rcases hO with e2 | ⟨g2, e2, h2'⟩
            · exact .inl (e.symm.trans e2)
            · rw [e] at e2; injection e2 with e2; subst e2; exact .inr ⟨g, rfl, h2'⟩
          · exact .inr ⟨g, rfl, by have := hF.size; omega⟩
      have HL := Lib.hid (And.intro o3 (And.intro hnew (And.intro hBs (And.intro hms hend))))
      have hcell : wr.cell? ⟨ub, 0, none⟩ = some (.slice A T1.length cap) := by rw [c0]; rfl
      obtain ⟨n, hn⟩ : ∃ n, T1.length = n := ⟨_, rfl⟩
      rw [hn] at hcell hlt2 hlen HL
      clear o3 hnew hend hM hMB hl hp hg hF hO c0 hms hBs hn
      have j1 : (n : Int) ≤ (q : Int) + 1 := by omega
      go_wp2_with (first
        | (at_builtin
           refine wpList_append_one rfl (.tmp 22) (.tmp 23) 51 rfl B 62 i62 (.int .u64 0) 8 Try.underlying51 I62.out.1 I62.out.2.1 I62.out.2.2.1 I62.out.2.2.2 (by decide) rfl (.slice A n cap) n (u64C T1) rfl HL.out.1 ⟨wr.heap.size, 0, none⟩ (.int .u64 0) rfl HL.out.2.1 rfl (by omega) (by have := HL.out.2.2.1; simp; omega) _ rfl ?_)
        | fail)
      intro g cp w4 ho4 hg4 hat4 hlt4
      obtain ⟨s1, s2, s3, s4⟩ := HL.out.2.2.2.2 g cp w4 ho4 hg4 hat4
      have HS := Lib.hid (And.intro s3 s4)
      clear s3 s4 ho4 hg4 hat4
      go_wp2_with fail
      go_roundw
      case rel => exact HS.out.2
      case measure => rw [HS.out.1, HL.out.2.2.2.1]; omega
    · have hT1 : T1.length = max T.length (q + 2) := by
        have := congrArg List.length hp
        rw [padTo_len, padTo_len] at this
        omega
      obtain ⟨g, cp, hv, hBg, hcp, hgl⟩ := own_pos hM.o (by omega)
      injection hv with hA _ hcc
      subst hA; subst hcc
      have c0 := hM.c.cell 0
      have hT2 : padTo (q + 2) T 0 = T1 := by rw [← hp]; exact padTo_done _ _ _ (by omega)
      obtain ⟨x, hx⟩ : ∃ x, T1[q]? = some x := ⟨_, List.getElem?_eq_getElem (show q < T1.length by omega)⟩
      obtain ⟨y, hy⟩ : ∃ y, T1[q + 1]? = some y := ⟨_, List.getElem?_eq_getElem (show q + 1 < T1.length by omega)⟩
      have gx : T.getD q 0 = x := by rw [← hg]; exact getD_get hx
      have gy : T.getD (q + 1) 0 = y := by rw [← hg]; exact getD_get hy
      have bx := hM.b x (List.mem_of_getElem? hx)
      have by_ := hM.b y (List.mem_of_getElem? hy)
      have d0 := World.ownsRow.cells hM.o (g := g) rfl q _ (u64C_get hx)
      have d1 := World.ownsRow.cells hM.o (g := g) rfl (q + 1) _ (u64C_get hy)
      rw [add0] at d0 d1
      have f0 := hM.o.frozenAt q
      have f1 := hM.o.frozenAt (q + 1)
      have HB0 := Lib.hid (show bits .or .u64 (x : Int) (IntKind.u64.wrap ((m : Int) * 2 ^ b)) = ((x ||| (m * 2 ^ b) % 2 ^ 64 : Nat) : Int) by
        rw [IntKind.wrap_u64, shl_mod]
        exact bits_or_u64_nat _ _ bx (Nat.mod_lt _ (by decide)))
      have HB1 := Lib.hid (show bits .or .u64 (y : Int) ((m : Int) / 2 ^ (64 - b)) = ((y ||| m / 2 ^ (64 - b) : Nat) : Int) by
        rw [shr_div]
        exact bits_or_u64_nat _ _ by_ (Nat.lt_of_le_of_lt (Nat.div_le_self _ _) hm))
      have hl1 : T1.length ≤ 20000 := by have := H.out.2.2.2.2.2.2; omega
      have hU : useR T base m = (T1.set q (x ||| (m * 2 ^ b) % 2 ^ 64)).set (q + 1) (y ||| m / 2 ^ (64 - b)) := by
        rw [H.out.2.2.2.1, hT2, gx, gy]
      have hgu : ub ≠ g := by have := hM.lt; omega
      obtain ⟨o1, gr1⟩ := World.ownsRow.stored hM.o q (.int .u64 ((x ||| (m * 2 ^ b) % 2 ^ 64 : Nat) : Int))
      obtain ⟨o2, gr2⟩ := World.ownsRow.stored o1 (q + 1) (.int .u64 ((y ||| m / 2 ^ (64 - b) : Nat) : Int))
      rw [← u64C_set, ← u64C_set] at o2
      have X1 : Fz (fun k => k = ub ∨ v0.ownBlock = some k) w (wr.setCell ⟨g, q, none⟩ (.int .u64 ((x ||| (m * 2 ^ b) % 2 ^ 64 : Nat) : Int))) := fz_set hF g q _ (by
        rcases hO with e | ⟨g2, e, h2⟩
        · exact .inl (.inr e.symm)
        · have : g = g2 := by injection e
          subst this; exact .inr h2)
      have X2 := fz_set X1 g (q + 1) (.int .u64 ((y ||| m / 2 ^ (64 - b) : Nat) : Int)) (by
        rcases hO with e | ⟨g2, e, h2⟩
        · exact .inl (.inr e.symm)
        · have : g = g2 := by injection e
          subst this; exact .inr h2)
      have hend : ∃ v, UsM ((wr.setCell ⟨g, q, none⟩ (.int .u64 ((x ||| (m * 2 ^ b) % 2 ^ 64 : Nat) : Int))).setCell ⟨g, q + 1, none⟩ (.int .u64 ((y ||| m / 2 ^ (64 - b) : Nat) : Int))) ub B (useR T base m) v ∧
          Fz (fun k => k = ub ∨ v0.ownBlock = some k) w ((wr.setCell ⟨g, q, none⟩ (.int .u64 ((x ||| (m * 2 ^ b) % 2 ^ 64 : Nat) : Int))).setCell ⟨g, q + 1, none⟩ (.int .u64 ((y ||| m / 2 ^ (64 - b) : Nat) : Int))) := by
        refine ⟨.slice (some ⟨g, 0, none⟩) T1.length cap, ⟨?_, ?_, hM.lt, H.out.2.2.2.2.1⟩, X2⟩
        · exact (gr2.block ub (by simp; exact hM.c.lt) (by simp; omega)).trans ((gr1.block ub hM.c.lt (by simp; omega)).trans hM.c)
        · rw [hU, List.length_set, List.length_set]
          exact o2
      have HE := Lib.hid hend
      have hgl' := hgl
      obtain ⟨n, hn⟩ : ∃ n, T1.length = n := ⟨_, rfl⟩
      rw [hn] at c0 hlt2 hl1 hcp
      have j1 : ¬ (n : Int) ≤ (q : Int) + 1 := by omega
      have j2 : (q : Int) < (n : Int) := by omega
      have j3 : (q : Int) + 1 < (n : Int) := by omega
      clear hM hl hp hg hF hO hT1 hT2 hx hy gx gy hU o1 o2 gr1 gr2 X1 X2 hend bx by_ hn
      go_wp2_with fail
      go_region
      rw [HB0.out]
      go_wp2_with fail
      go_region
      rw [HB1.out]
      go_wp2_with fail
      go_end0
      obtain ⟨v, k1, k2⟩ := HE.out
      exact ⟨rfl, v, k1.drew.drew, k2.drew.drew⟩
end Go.Proofs.Ytadipgkgllcicaa
