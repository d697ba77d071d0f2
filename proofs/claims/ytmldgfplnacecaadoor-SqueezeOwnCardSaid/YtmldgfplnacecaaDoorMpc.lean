/-
  Contract: numbered of contents.
-/
import Derived.Test.YtmldgfplnacecaaDoorKey
namespace Go.Proofs.YtmldgfplnacecaaDoor
open Go.RowKit Go.Shelf Go.Lib Go.Maps Go.Sort

instance : Inhabited Con := ⟨(0, [])⟩
/-- The cells of contents, the first k of them known. -/
def cfun (C : List Con) (k j : Nat) : Value := if j / 2 < k then (if j % 2 = 0 then .int .i64 (C.getD (j / 2) default).1 else .string ⟨(txt (C.getD (j / 2) default).2).toArray⟩) else (if j % 2 = 0 then .int .i64 0 else .string ⟨#[]⟩)
def CAt (w : World) (h : Nat) (C : List Con) (k : Nat) : Prop := Cells w h 138 (arr (2 * C.length) (cfun C k))
theorem CAt.at {w : World} {h : Nat} {C : List Con} {k i : Nat} {c : Con} (H : CAt w h C k) (hi : C[i]? = some c) (hk : i < k) :
    w.cell? ⟨h, i * 2, none⟩ = some (.int .i64 c.1) ∧ w.cell? ⟨h, i * 2 + 1, none⟩ = some (.string ⟨(txt c.2).toArray⟩) := by
  have hl := (List.getElem?_eq_some_iff.1 hi).1
  have e0 : (i * 2) / 2 = i := by omega
  have e1 : (i * 2 + 1) / 2 = i := by omega
  have e2 : (i * 2) % 2 = 0 := by omega
  have e3 : (i * 2 + 1) % 2 = 1 := by omega
  constructor
  · have := Cells.cell H (i * 2)
    rw [arr_get _ (by omega)] at this
    rw [this]
    unfold cfun
    rw [e0, e2, if_pos hk, if_pos rfl, getD_get hi]
  · have := Cells.cell H (i * 2 + 1)
    rw [arr_get _ (by omega)] at this
    rw [this]
    unfold cfun
    rw [e1, e3, if_pos hk, if_neg (by decide), getD_get hi]
theorem keyed138 : Keyed Tryd.prog 138 := law138
theorem Nu.on {α : Type} [DecidableEq α] {kt : TypeId} {enc : α → Lit} {dom : α → Prop} {w wr W : World} {l : List α} {k n mb ob : Nat} (h : Nu kt enc dom w wr l k n mb ob) (hb : Below wr.heap.size wr W) : Nu kt enc dom w W l k n mb ob :=
  ⟨h.b.trans (hb.mono h.b.size), h.m.block (hb.block _ h.m.lt), h.o.on hb, h.h1, h.h2⟩
set_option maxHeartbeats 8000000 in
set_option maxRecDepth 100000 in
theorem num89_any (C : List Con) (h : Nat) (hl : C.length ≤ 1000) (hd : ∀ c ∈ C, domC c) (w : World) (hc : CAt w h C C.length) :
    Calls Tryd.prog 89 #[.slice (some ⟨h, 0, none⟩) C.length C.length] w fun r w' => Below w.heap.size w w' ∧ ∃ v, r = .returned v ∧ FrL w w' (numL C) v := by
  obtain ⟨N, hN⟩ : ∃ N, C.length = N := ⟨_, rfl⟩
  have mk1 : ∀ t (W : World), (Instr.makeMap t none).run Tryd.prog W = .ok (.map (some W.heap.size)) (W.alloc (.map #[] 0)) := fun t W => run_makeMap t W
  have mk2 := make_ints N (by omega)
  obtain ⟨W0, hW0⟩ : ∃ W, (w.alloc (.map #[] 0)).alloc (.cells (arr N fun _ => .int .i64 0) 3) = W := ⟨_, rfl⟩
  have S0 : Nu 138 encC domC w W0 C 0 N w.heap.size (w.heap.size + 1) := by
    refine ⟨by rw [← hW0]; exact ((Below.refl _ _).alloc (Nat.le_refl _) _).alloc (by simp) _, ?_, ?_, Nat.le_refl _, by omega⟩
    · rw [← hW0]; exact (Nmg.made 138 encC domC w).block ((below_new _ _).block _ (by simp))
    · have := cells_new (w.alloc (.map #[] 0)) (arr N fun _ => .int .i64 0) 3
      rw [World.size_alloc] at this
      rw [← hW0]
      have e : arr N (fun j => .int .i64 (if j < 0 then (numL C).getD j 0 else 0)) = arr N fun _ => .int .i64 0 := arr_congr fun j _ => by simp
      rw [e]; exact this
  have H := Lib.hid (And.intro hc (And.intro hN (And.intro S0 hd)))
  have HW := Lib.hid hW0
  have hhl := Cells.lt hc
  rw [hN] at hl ⊢
  clear hc hN S0 hW0 hd
  go_enter Tryd.func89, Tryd.ntmps89
  go_wp2_with fail
  rw [HW.out]
  go_loopw [15] (fun i wr => ∃ k : Nat, i = .int .i64 (k : Int) ∧ k ≤ N ∧ Nu 138 encC domC w wr C k N w.heap.size (w.heap.size + 1)) (fun i _ => N - (RowKit.intOf i).toNat)
  case atStart => exact ⟨0, rfl, by omega, H.out.2.2.1⟩
  case round =>
    obtain ⟨k, rfl, hk, hNu⟩ := hrel
    by_cases hlt : k < N
    · have i1 : (k : Int) < (N : Int) := by omega
      obtain ⟨x, hx⟩ : ∃ x, C[k]? = some x := ⟨C[k]'(by rw [H.out.2.1]; exact hlt), List.getElem?_eq_getElem _⟩
      have hcc : CAt wr h C N := by have := H.out.1; rw [H.out.2.1] at this; exact (hNu.b.block h (by omega)).trans this
      obtain ⟨d0, d1⟩ := hcc.at hx hlt
      have hxi := H.out.2.2.2 x (List.mem_of_getElem? hx)
      have hNu1 := hNu.on (below_new wr (.cells #[.int .i64 x.1, .string ⟨(txt x.2).toArray⟩] 138))
      have hst := numL_step hx
      have hseen := seenL_take hx
      have hdom : ∀ y ∈ seenL (C.take k), domC y := fun y hy => H.out.2.2.2 y (List.mem_of_mem_take ((mem_seenT C k (by rw [H.out.2.1]; exact hk) y).1 hy))
      have hsl := seenT_length C k (by rw [H.out.2.1]; exact hk)
      obtain ⟨S, hS⟩ : ∃ S, seenL (C.take k) = S := ⟨_, rfl⟩
      have hM := hNu1.m
      rw [hS] at hM hseen hdom hsl
      have o1 := hNu1.o.cell k
      have f1 := hNu1.o.froz k
      have z1 := hNu1.o.lt
      rw [arr_get _ hlt] at o1
      have HV := Lib.hid (key138 hxi)
      unfold valC at HV
      by_cases hmem : x ∈ S
      · rw [if_pos hmem] at hseen
        obtain ⟨i, hi1, hi2, hi3⟩ := numT_hit hmem
        rw [hseen, hi1] at hst
        have HK := Lib.hid (And.intro hM (And.intro hi2 (And.intro hxi (Nu.store (w := w) (v := (i : Int)) hNu1.b (by rw [hseen]; exact hM) hNu1.o hNu1.h1 hNu1.h2 hst))))
        have hi0 : i ≤ 1000 := by omega
        clear hx hxi hst hseen hdom hS hM hmem hi1 hi2 hi3 hNu hNu1 hcc
        go_wp2_with (first
          | (refine wpList_look_hit rfl (.tmp 21) (.tmp 22) 151 138 rfl keyed138 Tryd.underlying151 w.heap.size S HK.out.1 x _ HV.out i HK.out.2.1 rfl rfl ?_)
          | fail)
        go_roundw
        case rel => exact ⟨k + 1, by go_num, by omega, HK.out.2.2.2⟩
        case measure => simp [RowKit.intOf]; omega
      · rw [if_neg hmem] at hseen
        rw [hseen, numT_new hmem] at hst
        have HK := Lib.hid (And.intro hM (And.intro hmem (And.intro hxi (And.intro hdom (And.intro hNu1 (And.intro hst hseen))))))
        clear hx hxi hst hseen hdom hS hM hmem hNu hNu1 hcc
        go_wp2_with (first
          | (refine wpList_look_miss rfl (.tmp 21) (.tmp 22) 151 138 rfl keyed138 Tryd.underlying151 w.heap.size S HK.out.1 x _ HV.out HK.out.2.2.1 HK.out.2.1 rfl rfl ?_)
          | (refine wpList_lenN rfl (.tmp 28) 151 138 rfl Tryd.underlying151 w.heap.size S HK.out.1 rfl ?_)
          | (refine wpList_updN rfl (.tmp 30) (.tmp 31) (.tmp 32) 151 138 rfl keyed138 Tryd.underlying151 (fun _ => show WideAt.IsKeyLit (Lit.string _) from trivial) (fun x y h1 h2 => encC_inj x y h1 h2) w.heap.size S HK.out.1 (by omega) HK.out.2.2.2.1 x _ HV.out HK.out.2.2.1 HK.out.2.1 rfl rfl rfl ?_
             intro w2 hM2 hg2
             have b2 := HK.out.2.2.2.2.1.b.grown hg2 HK.out.2.2.2.2.1.b.size (fun q hq => by injection hq with hq; omega)
             have o2 : Cells w2 (w.heap.size + 1) 3 _ := (hg2.block _ HK.out.2.2.2.2.1.o.lt (by simp)).trans HK.out.2.2.2.2.1.o
             have g1 := o2.cell k
             have g2 := o2.froz k
             rw [arr_get _ hlt] at g1
             have zz := o2.lt
             have HE := Lib.hid (Nu.store (w := w) (l := C) (k := k) (v := (S.length : Int)) b2 (by rw [HK.out.2.2.2.2.2.2]; exact hM2) o2 (Nat.le_refl _) (by omega) HK.out.2.2.2.2.2.1)
             clear hM2 hg2 b2 o2)
          | fail)
        go_roundw
        case rel => exact ⟨k + 1, by go_num, by omega, HE.out⟩
        case measure => simp [RowKit.intOf]; omega
    · obtain rfl : k = N := by omega
      have i1 : ¬ (k : Int) < (k : Int) := by omega
      have hfin : FrL w wr (numL C) (.slice (some ⟨w.heap.size + 1, 0, none⟩) k k) := by
        refine ⟨w.heap.size + 1, by rw [numL_len, H.out.2.1], by omega, ?_⟩
        have e : arr k (fun j => .int .i64 (if j < k then (numL C).getD j 0 else 0)) = (intsC (numL C)).toArray := by
          rw [← arr_ints, numL_len, H.out.2.1]
          exact arr_congr fun j hj => by rw [if_pos hj]
        rw [← e]; exact hNu.o
      have HF := Lib.hid (And.intro hNu.b hfin)
      clear hNu hfin
      go_wp2_with fail
      go_ret
      exact ⟨HF.out.1, _, rfl, HF.out.2⟩
end Go.Proofs.YtmldgfplnacecaaDoor
