/-
  Contracts: the set of one place.
-/
import Derived.Test.YtlbcicoppglgjaaDoorPl
namespace Go.Proofs.YtlbcicoppglgjaaDoor
open Go.RowKit Go.Shelf Go.Lib Go.Great

def Z70 : Array Value := (List.replicate 16 (Value.int .u64 0)).toArray
theorem Z70_eq : Z70 = (plL 0).toArray := by unfold Z70 plL; simp only [wd_zero]; rfl
/-- A new set. -/
theorem wpList_alloc70 {ops : Array Oper} {rest : List Oper} {o : Oper} {a : Act} {w : World} {Q : Exit → Act → World → Prop} (hg : o.guard = none) (dst : Tmp) (hdst : o.dst = some dst) (ho : o.op = .alloc 70)
    (N : Nat) (hN : w.heap.size = N) (W : World) (hW : w.alloc (.cells Z70 70) = W)
    (h : wpList Tryd.prog ops Q rest (a.put (some dst) (.pointer (some ⟨N, 0, none⟩))) W) : wpList Tryd.prog ops Q (o :: rest) a w := by
  subst hN hW
  refine wpList_allocTo hg (some dst) hdst (.pointer (some ⟨w.heap.size, 0, none⟩)) (.cells Z70 70) ?_ h
  obtain ⟨d, op, t, pos, aft, g⟩ := o
  dsimp only at ho
  subst ho
  kernel_rfl
theorem plAt_new (w : World) : PlAt (w.alloc (.cells Z70 70)) w.heap.size 0 0 := fun i hi => by
  constructor
  · rw [World.cell?_alloc_new, Z70_eq]
    simpa using plL_get 0 i hi
  · exact World.frozen?_alloc_new _ _ _ _
theorem plAt_set {w : World} {b o m m' k : Nat} (h : PlAt w b o m) (hk : k < 16) (hm : ∀ i, i < 16 → wd m' i = if i = k then wd m' k else wd m i) : PlAt (w.setCell ⟨b, o + k, none⟩ (.int .u64 (wd m' k : Nat))) b o m' := fun i hi => by
  obtain ⟨h1, h2⟩ := h i hi
  refine ⟨?_, by simpa using h2⟩
  by_cases e : i = k
  · subst e; exact World.cell?_setCell_same _ _ _ h1
  · rw [World.cell?_setCell_other _ _ _ _ (by intro h3; injection h3 with h4 h5; omega), h1, hm i hi, if_neg e]
theorem plAt_there {w : World} {b o m : Nat} (h : PlAt w b o m) : w.there b o 16 := fun j hj => ⟨by rw [(h j hj).1]; rfl, (h j hj).2⟩
theorem grown_setCells (b : Nat) : ∀ (vs : List Value) (o : Nat) (w : World), w.grownBy (w.setCells b o vs) (some b)
  | [], _, w => World.grownBy.refl w _
  | v :: r, o, w => by
    have g2 : w.grownBy (w.setCell ⟨b, o, none⟩ v) (some b) := ⟨rfl, rfl, rfl, by simp [World.setCell], fun i _ hi => Below.heap_setCell _ _ _ _ (fun e => hi (by rw [e]))⟩
    exact g2.trans (grown_setCells b r (o + 1) _)
theorem plSet_cells {w : World} {b o m : Nat} (m' : Nat) (h : PlAt w b o m) : PlSet w (w.setCells b o (plL m').toArray.toList) b o m' := by
  have hl := plL_len m'
  simp only
  refine ⟨grown_setCells _ _ _ _, fun i hi => ⟨?_, ?_⟩, fun j hj => ?_, fun j hj => World.frozen?_setCells _ _ _ _ _⟩
  · rw [World.cell?_setCells_in b (plL m') o w (fun j hj => by rw [(h j (by omega)).1]; rfl) i (by omega)]
    have := plL_get m' i hi
    rw [List.getElem?_eq_getElem (by omega)] at this
    exact this
  · rw [World.frozen?_setCells]; exact (h i hi).2
  · exact World.cell?_setCells_out _ _ _ _ _ (fun _ _ => by rw [hl]; exact hj)
/-- A set is stored. -/
theorem wpList_storePl {ops : Array Oper} {rest : List Oper} {o : Oper} {a : Act} {w : World} {Q : Exit → Act → World → Prop} (hg : o.guard = none) (x y : Operand) (ho : o.op = .store 70 x y) (hd : o.dst = none)
    (b off m m' : Nat) (hx : a.eval x = .pointer (some ⟨b, off, none⟩)) (hy : a.eval y = .agg (plL m').toArray) (hat : PlAt w b off m)
    (h : ∀ W, PlSet w W b off m' → wpList Tryd.prog ops Q rest a W) : wpList Tryd.prog ops Q (o :: rest) a w := by
  refine wpList_store_mid hg 70 x y ho b off (plL m').toArray hx hy (by simpa [plL_len] using plAt_there hat) (by rw [size70]; simp [plL_len]) (plL_one _) ?_
  rw [hd]
  exact h _ (plSet_cells m' hat)
/-- A set is loaded. -/
theorem wpList_loadPl {ops : Array Oper} {rest : List Oper} {o : Oper} {a : Act} {w : World} {Q : Exit → Act → World → Prop} (hg : o.guard = none) (x : Operand) (ho : o.op = .load 70 x)
    (b off m : Nat) (hx : a.eval x = .pointer (some ⟨b, off, none⟩)) (hat : PlAt w b off m)
    (h : wpList Tryd.prog ops Q rest (a.put o.dst (.agg (plL m).toArray)) w) : wpList Tryd.prog ops Q (o :: rest) a w :=
  wpList_load_mid hg 70 x ho b off hx (plL m) (.array 16 37) hat.range Tryd.underlying70 rfl (by rw [plL_len]; exact size70) h
theorem results_pl {fn : Func} {t : Tmp} (h : fn.results = #[.cell t 70]) (tmps : Array Value) (w : World) (b off m : Nat) (hp : tmps.getD t undef = .pointer (some ⟨b, off, none⟩)) (hat : PlAt w b off m) :
    (results fn tmps).run Tryd.prog w = .ok (.agg (plL m).toArray) w := by
  have hp' : tmps[t]?.getD undef = .pointer (some ⟨b, off, none⟩) := by simpa using hp
  simp [results, h, hp', asAddr, run_loadVar_mid w b off 70 (plL m) (.array 16 37) hat.range Tryd.underlying70 rfl (by rw [plL_len]; exact size70)]
theorem below_grown {w w' : World} {b B : Nat} (h : w.grownBy w' (some b)) (hB : B ≤ b) (hs : B ≤ w.heap.size) : Below B w w' :=
  ⟨h.os, h.tape, h.output, h.size, fun k hk => h.block k (by omega) (by simp; omega)⟩
theorem wrap_small (x : Nat) (h : x < 18446744073709551616) : IntKind.u64.wrap (x : Int) = (x : Int) := by rw [IntKind.wrap_u64]; omega
theorem wrap_pow (k : Nat) (hk : k < 64) : IntKind.u64.wrap ((2 : Int) ^ k) = ((2 ^ k : Nat) : Int) := by
  have h1 : (2 : Nat) ^ k < 2 ^ 64 := Nat.pow_lt_pow_right (by omega) (by omega)
  have h2 : ((2 : Int) ^ k) = ((2 ^ k : Nat) : Int) := (Int.natCast_pow 2 k).symm
  rw [h2]
  exact wrap_small _ h1
set_option maxHeartbeats 4000000 in
set_option maxRecDepth 100000 in
theorem only_any (p : Nat) (w : World) (hp : p < 1024) : Calls Tryd.prog 32 #[.int .i64 (p : Int)] w fun e w' => e = .returned (.agg (plL (2 ^ p)).toArray) ∧ Below w.heap.size w w' := by
  obtain ⟨N0, hN0⟩ : ∃ N, w.heap.size = N := ⟨_, rfl⟩
  obtain ⟨W1, hW1⟩ : ∃ W, w.alloc (.cells Z70 70) = W := ⟨_, rfl⟩
  obtain ⟨N1, hN1⟩ : ∃ N, W1.heap.size = N := ⟨_, rfl⟩
  obtain ⟨W2, hW2⟩ : ∃ W, W1.alloc (.cells Z70 70) = W := ⟨_, rfl⟩
  have hk : p / 64 < 16 := by omega
  have hlt : N0 < N1 := by rw [← hN1, ← hW1, ← hN0]; simp
  have a0 : PlAt W2 N0 0 0 := by
    have h1 : PlAt W1 N0 0 0 := by rw [← hW1, ← hN0]; exact plAt_new w
    refine h1.block ?_
    rw [← hW2]; exact Below.heap_alloc _ _ _ (by omega)
  have a1 : PlAt W2 N1 0 0 := by rw [← hW2, ← hN1]; exact plAt_new W1
  have hb : Below N0 w W2 := by rw [← hW2, ← hW1]; exact ((Below.refl _ _).alloc (by omega) _).alloc (by simp; omega) _
  have hsz : N0 ≤ W2.heap.size := by have := hb.size; omega
  have c1 := (a1 _ hk).1
  have f1 := (a1 _ hk).2
  rw [wd_zero, Nat.zero_add] at c1
  rw [Nat.zero_add] at f1
  have hv : IntKind.u64.wrap ((2 : Int) ^ (p % 64)) = ((wd (2 ^ p) (p / 64) : Nat) : Int) := by
    rw [wd_pow, if_pos rfl]
    exact wrap_pow _ (by omega)
  have a2 : PlAt (W2.setCell ⟨N1, p / 64, none⟩ (.int .u64 (IntKind.u64.wrap ((2 : Int) ^ (p % 64))))) N1 0 (2 ^ p) := by
    rw [hv]
    have := plAt_set (m' := 2 ^ p) a1 hk (fun i hi => by
      by_cases e : i = p / 64
      · rw [if_pos e, e]
      · rw [if_neg e, wd_pow, if_neg e, wd_zero])
    rwa [Nat.zero_add] at this
  have b2 : PlAt (W2.setCell ⟨N1, p / 64, none⟩ (.int .u64 (IntKind.u64.wrap ((2 : Int) ^ (p % 64))))) N0 0 0 := a0.block (Below.heap_setCell _ _ _ _ (by simp; omega))
  have hb2 : Below N0 w (W2.setCell ⟨N1, p / 64, none⟩ (.int .u64 (IntKind.u64.wrap ((2 : Int) ^ (p % 64))))) := hb.setCell (by simp; omega) _
  have HN0 := Lib.hid hN0
  have HN1 := Lib.hid hN1
  have HW1 := Lib.hid hW1
  have HW2 := Lib.hid hW2
  have H1 := Lib.hid (And.intro a2 (And.intro b2 (And.intro hb2 hsz)))
  rw [hN0]
  clear hN0 hN1 hW1 hW2 a1 a2 b2 hb hb2 a0 hv hlt hsz
  go_enter Tryd.func32, Tryd.ntmps32
  go_wp2_with (first
    | (refine wpList_alloc70 rfl 2 rfl rfl N0 HN0.out W1 HW1.out ?_)
    | (refine wpList_alloc70 rfl 3 rfl rfl N1 HN1.out W2 HW2.out ?_)
    | (refine wpList_loadPl rfl (.tmp 3) rfl N1 0 (2 ^ p) rfl H1.out.1 ?_)
    | (refine wpList_storePl rfl (.tmp 2) (.tmp 10) rfl rfl N0 0 0 (2 ^ p) rfl rfl H1.out.2.1 ?_)
    | fail)
  intro W hW
  have HW := Lib.hid hW
  clear hW
  go_wp2_with fail
  refine bodyPost_ret (v := .agg (plL (2 ^ p)).toArray) (results_pl rfl _ _ N0 0 (2 ^ p) rfl HW.out.at_) rfl ⟨rfl, ?_⟩
  exact H1.out.2.2.1.trans (below_grown HW.out.grown (Nat.le_refl _) (by have := H1.out.2.2.2; simp [World.setCell]; omega))
end Go.Proofs.YtlbcicoppglgjaaDoor
