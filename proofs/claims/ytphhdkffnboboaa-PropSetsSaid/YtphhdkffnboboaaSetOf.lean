/-
  Contracts: prop.setOf.
-/
import Derived.Test.YtphhdkffnboboaaPt
import Derived.Test.YtphhdkffnboboaaGatH
namespace Go.Proofs.Ytphhdkffnboboaa
open Go.RowKit Go.Shelf
open Go.Lib Go.Great

theorem NR_extract {k : Nat} {x : Row} (hx : rowsP[k]? = some x) : NR.extract (k * 3) (k * 3 + 3) = #[.int .i32 x.1, .int .i32 x.2.1, .int .i64 (x.2.2 : Int)] := by
  obtain ⟨h1, h2, h3⟩ := NR_get rowsP k x hx
  have hl := (List.getElem?_eq_some_iff.1 h3).1
  have hs : NR.size = (rowsP.flatMap rcell).length := by unfold NR; simp
  apply Array.ext
  · simp only [Array.size_extract, List.size_toArray, List.length_cons, List.length_nil]
    omega
  · intro i h4 h5
    have h5' : i < 3 := by simpa using h5
    rw [Array.getElem_extract]
    have e : ∀ j (hj : j < NR.size) v, (rowsP.flatMap rcell)[j]? = some v → NR[j] = v := by
      intro j hj v hv
      have : NR[j]? = some v := by unfold NR; simpa using hv
      rw [Array.getElem?_eq_getElem hj] at this
      exact Option.some.inj this
    match i, h5' with
    | 0, _ => exact e _ _ _ (by simpa using h1)
    | 1, _ => exact e _ _ _ h2
    | 2, _ => exact e _ _ _ h3
theorem row_index {k : Nat} {x : Row} (hx : rowsP[k]? = some x) (w : World) : (Instr.index 98 (.agg NR) (.int .i64 (k : Int))).run Try.prog w = .ok (.agg #[.int .i32 x.1, .int .i32 x.2.1, .int .i64 (x.2.2 : Int)]) w := by
  have hk : k < 140 := by have := (List.getElem?_eq_some_iff.1 hx).1; rw [rows_len] at this; exact this
  have hE := NR_extract hx
  simp [Instr.index, asIntOf, run_underlying Try.underlying98, part, Try.isAgg97, Try.sizeOf97, Sem.run_bind, Result.andThen, hE, go_sem]
  omega

theorem flat_take (pick : Row → List Rng) (k : Nat) (x : Row) (hx : rowsP[k]? = some x) : (rowsP.take (k + 1)).flatMap pick = (rowsP.take k).flatMap pick ++ pick x := by
  rw [List.take_add_one, hx]
  simp
theorem flat_len (pick : Row → List Rng) (k : Nat) : ((rowsP.take k).flatMap pick).length ≤ (rowsP.flatMap pick).length := by
  have : rowsP.flatMap pick = (rowsP.take k).flatMap pick ++ (rowsP.drop k).flatMap pick := by rw [← List.flatMap_append, List.take_append_drop]
  rw [this]
  simp

attribute [local irreducible] NR

set_option maxHeartbeats 4000000 in
set_option maxRecDepth 100000 in
theorem setOf_any (g : Nat) (cb : Array Value) (eg : ∀ args w, (callFunc g args).run Try.prog w = .ok (.enter g args) w) (pick : Row → List Rng) (w : World)
    (hp : ∀ x, x ∈ rowsP → ∀ W, Below w.heap.size w W → Calls Try.prog g (#[.agg #[.int .i32 x.1, .int .i32 x.2.1, .int .i64 (x.2.2 : Int)]] ++ cb) W (SP (pick x) W))
    (hm : ((rowsP.flatMap pick).all may) = true) (hl : (rowsP.flatMap pick).length ≤ 1000) :
    Calls Try.prog 64 #[.func (.func g) #[] cb] w fun e w' => SP (norm (hasR (rowsP.flatMap pick))) w e w' ∧ (∀ r, hasR (norm (hasR (rowsP.flatMap pick))) r = hasR (rowsP.flatMap pick) r) ∧ (norm (hasR (rowsP.flatMap pick))).length ≤ 1000 := by
  obtain ⟨i0, hi, hz0, hz1, hz2⟩ := info_parts Try.info70
  obtain ⟨F, hF⟩ : ∃ F : Nat → List Rng, ∀ k, F k = (rowsP.take k).flatMap pick := ⟨_, fun _ => rfl⟩
  have HF0 : Hid (F 0 = []) := Lib.hid (by rw [hF]; rfl)
  have HFs : Hid (∀ k x, rowsP[k]? = some x → F (k + 1) = F k ++ pick x) := Lib.hid (fun k x hx => by rw [hF, hF]; exact flat_take pick k x hx)
  have HFl : Hid (∀ k, (F k).length ≤ (rowsP.flatMap pick).length) := Lib.hid (fun k => by rw [hF]; exact flat_len pick k)
  have HFT : Hid (∀ k, 140 ≤ k → F k = rowsP.flatMap pick) := Lib.hid (fun k hk => by rw [hF, List.take_of_length_le (by rw [rows_len]; exact hk)])
  clear hF
  generalize rowsP.flatMap pick = T at *
  have HP := Lib.hid hp
  have HM := Lib.hid hm
  have HL := Lib.hid hl
  have EG := Lib.hid eg
  clear hp hm hl eg
  go_enter Try.func64, Try.ntmps64
  go_wp2_with fail
  refine (rows_any _).mono ?_
  rintro e w1 ⟨rfl, hb1⟩
  have HB1 := Lib.hid hb1
  clear hb1
  go_wp2_with fail
  go_loopw [3, 9] (fun v i wr => ∃ k : Nat, i = .int .i64 k ∧ k ≤ 140 ∧ wr.ownsRow w1.heap.size 70 2 v (F k).length (cells2 (F k)) ∧ Below w1.heap.size w1 wr) (fun _ i _ => 140 - (RowKit.intOf i).toNat)
  case atStart => exact ⟨0, rfl, by omega, by rw [HF0.out]; exact World.ownsRow_nil _ _ _ _, Below.refl _ _⟩
  case round =>
    obtain ⟨k, rfl, hk, hown, hb⟩ := hrel
    by_cases hlt : k < 140
    · obtain ⟨x, hx⟩ : ∃ x, rowsP[k]? = some x := ⟨rowsP[k]'(by rw [rows_len]; exact hlt), List.getElem?_eq_getElem _⟩
      have HX := Lib.hid (row_index hx)
      have HF := Lib.hid (HFs.out k x hx)
      have HLk1 := Lib.hid (HFl.out (k + 1))
      have hmem := List.mem_of_getElem? hx
      have C := Lib.hid (HP.out x hmem)
      clear hx hmem
      obtain ⟨lo, hi', cl⟩ := x
      have i1 : (k : Int) < 140 := by omega
      have hX := HX.out wr
      simp only at hX
      have hbx := hb.alloc hb.size (.cells #[.int .i32 lo, .int .i32 hi', .int .i64 (cl : Int)] 97)
      have own1 := hown.alloc (.cells #[.int .i32 lo, .int .i32 hi', .int .i64 (cl : Int)] 97)
      have hC := C.out _ (HB1.out.trans (hbx.mono HB1.out.size))
      simp only at hC
      generalize hP : pick (lo, hi', cl) = Pk at hC HF
      clear hP hown
      have hEG := EG.out
      go_wp2_with fail
      refine hC.mono ?_
      rintro e w2 ⟨A1, c1, rfl, hS, hb2⟩
      have own2 := ownsRow_below own1 hb2
      have hbz := hbx.trans (hb2.mono hbx.size)
      have HO := Lib.hid own2
      have HS := Lib.hid hS
      have HZ := Lib.hid hbz
      have hlen : (F k).length + Pk.length ≤ 1000 := by
        have h1 := HLk1.out
        have h2 := HL.out
        rw [HF.out, List.length_append] at h1
        omega
      have HLN := Lib.hid hlen
      clear hC own1 own2 hb hb2 hbx hbz hS hlen hEG
      go_wp2_with (refine wpList_append_rg rfl (.tmp 12) (.tmp 15) 41 41 rfl w1.heap.size 70 i0 (.agg #[.int .i32 0, .int .i32 0]) Try.underlying41 Try.underlying41 hi hz0 hz1 hz2 rfl _ (F k) rfl HO.out A1 c1 Pk rfl HS.out.r HS.out.f.w (by have := HLN.out; omega) HZ.out.size ?_; intro v2 w3 own3 hb3)
      rw [← HF.out] at own3
      have hbq := HZ.out.trans hb3
      clear hb3
      go_wp2
      go_roundw
      case rel => exact ⟨k + 1, by go_num, by omega, own3, hbq⟩
      case measure => simp [RowKit.intOf]; omega
    · have hkn : k = 140 := by omega
      have e : F k = T := HFT.out k (by omega)
      rw [e] at hown
      have i1 : (140 : Int) ≤ (k : Int) := by omega
      clear hkn hlt
      obtain ⟨A1, c1, hv, hS⟩ := sw_own hown (fun x hx => may_i32 (List.all_eq_true.1 HM.out) x hx)
      subst hv
      have C := make_ok A1 c1 T wr hS (by exact HL.out) HM.out
      have C := Lib.hid C
      have hbz := HB1.out.trans (hb.mono HB1.out.size)
      have HZ := Lib.hid hbz
      clear hown e hS hb hbz
      go_wp2_with fail
      refine C.out.mono ?_
      rintro e w2 ⟨A2, c2, rfl, hS, hle, hh, hb2⟩
      have H := Lib.hid (And.intro hS (And.intro (HZ.out.trans (hb2.mono HZ.out.size)) (And.intro hh (show (norm (hasR T)).length ≤ 1000 by have := HL.out; omega))))
      clear hS hle hh hb2
      go_wp2
      go_ret
      exact ⟨⟨_, _, rfl, H.out.1, H.out.2.1⟩, H.out.2.2.1, H.out.2.2.2⟩
end Go.Proofs.Ytphhdkffnboboaa
