/-
  Contracts: strings.Index at a comma; the iterator of strings.SplitSeq at a comma.
-/
import Derived.Test.YtphhdkffnboboaaGreatDoorRf
import Derived.Test.YtphhdkffnboboaaGreatDoorSpc
namespace Go.Proofs.YtphhdkffnboboaaGreatDoor
open Go.RowKit Go.Shelf
open Go.Lib
attribute [local go_sem] Oper.semAt_some

theorem index_any (s : List UInt8) (m : Int) (w : World) (hs : s.length ≤ 1000000) (h : w.cell? ⟨0, 0, none⟩ = some (.int .i64 m)) :
    Calls Tryz.prog 32 #[.string ⟨s.toArray⟩, .string ⟨#[44]⟩] w fun e w' => e = .returned (.int .i64 (Lib.index s [44])) ∧ w' = w := by
  have C : Calls Tryz.prog 32 #[.string ⟨s.toArray⟩, .string ⟨#[44]⟩] w _ := Any.strings_Index { Tryz.countL with } ⟨s.toArray⟩ ⟨#[44]⟩ m w (by show s.toArray.size < _; rw [List.size_toArray]; omega) h
  exact C

theorem extract_tail (p : List UInt8) (c : UInt8) (t : List UInt8) : ByteArray.extract ⟨(p ++ c :: t).toArray⟩ (p.length + 1) (ByteArray.size ⟨(p ++ c :: t).toArray⟩) = ⟨t.toArray⟩ := by
  have h : ByteArray.size ⟨(p ++ c :: t).toArray⟩ = (p ++ c :: t).length := List.size_toArray
  rw [h, ByteArray.ext_iff, ByteArray.data_extract]
  show (p ++ c :: t).toArray.extract _ _ = t.toArray
  rw [List.extract_toArray]
  congr 1
  rw [List.extract_eq_take_drop, show p ++ c :: t = (p ++ [c]) ++ t by simp, show p.length + 1 = (p ++ [c]).length by simp, List.drop_left, List.length_append]
  simp
/-- How long the text is that a variable holds. -/
def boxLen (q : Nat) (W : World) : Nat := match W.cell? ⟨q, 0, none⟩ with
  | some (.string s) => s.size
  | _ => 0
theorem boxLen_eq {q : Nat} {W : World} {L : List UInt8} (h : W.cell? ⟨q, 0, none⟩ = some (.string ⟨L.toArray⟩)) : boxLen q W = L.length := by
  unfold boxLen
  rw [h]
  show L.toArray.size = _
  rw [List.size_toArray]

set_option maxHeartbeats 2000000 in
theorem split_hands (n : Nat) (hn : 2 ≤ n) (q : Nat) (s : List UInt8) (hs : s.length ≤ 1000000) (m : Int) (w : World) (c0 : w.cell? ⟨q, 0, none⟩ = some (.string ⟨s.toArray⟩)) (c1 : w.cell? ⟨q + 1, 0, none⟩ = some (.string ⟨#[44]⟩))
    (c2 : w.cell? ⟨q + 2, 0, none⟩ = some (.int .i64 0)) (f0 : w.frozen? ⟨q, 0, none⟩ = false) (hm : w.cell? ⟨0, 0, none⟩ = some (.int .i64 m)) (hq : 0 < q) : Hands n 44 q (splitC s) w := by
  intro l J Jx W hK lJ lX hY h0
  have k0 : W.cell? ⟨q, 0, none⟩ = some (.string ⟨s.toArray⟩) := (hK.c 0 (by omega)).trans c0
  have k1 : W.cell? ⟨q + 1, 0, none⟩ = some (.string ⟨#[44]⟩) := (hK.c 1 (by omega)).trans c1
  have k2 : W.cell? ⟨q + 2, 0, none⟩ = some (.int .i64 0) := (hK.c 2 (by omega)).trans c2
  have kf : W.frozen? ⟨q, 0, none⟩ = false := (hK.f 0 (by omega)).trans f0
  have km : W.cell? ⟨0, 0, none⟩ = some (.int .i64 m) := hK.m.trans hm
  clear c0 c1 c2 f0 hm hK
  refine callsIn_of_wp Tryz.func44 rfl trivial ?_ rfl
  simp only [Tryz.ntmps44, List.size_toArray, List.length_cons, List.length_nil, Nat.reduceAdd, Nat.reduceSub, Array.replicate_succ, Array.replicate_zero, List.push_toArray, List.append_toArray, List.nil_append, List.cons_append]
  gi_wp2
  gi_loopw [7, 8] (fun _ _ wr => ∃ (pre : List (List UInt8)) (rest : List UInt8), splitC s = pre ++ splitC rest ∧ rest.length ≤ 1000000 ∧ wr.cell? ⟨q, 0, none⟩ = some (.string ⟨rest.toArray⟩) ∧ wr.cell? ⟨q + 1, 0, none⟩ = some (.string ⟨#[44]⟩) ∧
      wr.cell? ⟨q + 2, 0, none⟩ = some (.int .i64 0) ∧ wr.frozen? ⟨q, 0, none⟩ = false ∧ wr.cell? ⟨0, 0, none⟩ = some (.int .i64 m) ∧ J pre wr)
    (fun _ _ wr => boxLen q wr)
  case atStart =>
    exact ⟨[], s, rfl, hs, k0, k1, k2, kf, km, h0⟩
  case round =>
    obtain ⟨pre, rest, hx, hl, d0, d1, d2, df, dm, hJ⟩ := hrel
    rcases index_byte 44 rest with ⟨hi, hno⟩ | ⟨p, t, rfl, hno, hi⟩
    · have hsp : splitC rest = [rest] := splitC_none hno
      have hfin : pre ++ [rest] = splitC s := by rw [hx, hsp]
      obtain ⟨fn, tmps, assign, body, hy, hR⟩ := hY pre rest wr hJ (by rw [hfin]; exact List.prefix_refl _)
      gi_wp2_with (refine ⟨trivial, fun _ => by omega, ?_⟩; gi_at_call 32; refine (callsIn_wide.2 (index_any rest m wr hl dm)).mono ?_; rintro e w' ⟨rfl, rfl⟩; rw [hi])
      refine ⟨fun _ => by omega, ?_⟩
      refine hR.mono ?_
      rintro e W3 (⟨rfl, hJ3, _⟩ | ⟨rfl, hJ3⟩)
      · gi_wp2
        go_end0
        exact ⟨⟨_, rfl⟩, .inl (by rw [← hfin]; exact hJ3)⟩
      · gi_wp2
        go_end0
        exact ⟨⟨_, rfl⟩, .inr ⟨_, List.prefix_refl _, by rw [← hfin]; exact hJ3⟩⟩
    · have e1 : ∀ W : World, (Instr.slice 9 (.string ⟨(p ++ 44 :: t).toArray⟩) none (some (.int .i64 (p.length : Int))) none).run Tryz.prog W = .ok (.string ⟨p.toArray⟩) W := fun W => by
        rw [run_slice_string_h W 9 ⟨(p ++ 44 :: t).toArray⟩ Tryz.underlying9 .i64 (p.length : Int) (by omega) (by show _ ≤ (((p ++ 44 :: t).toArray.size : Nat) : Int); simp; omega)]
        simp [ByteArray.ext_iff]
      have e2 : ∀ W : World, (Instr.slice 9 (.string ⟨(p ++ 44 :: t).toArray⟩) (some (.int .i64 ((p.length : Int) + 1))) none none).run Tryz.prog W = .ok (.string ⟨t.toArray⟩) W := fun W => by
        rw [run_slice_string_l W 9 ⟨(p ++ 44 :: t).toArray⟩ Tryz.underlying9 .i64 ((p.length : Int) + 1) (by omega) (by show _ ≤ (((p ++ 44 :: t).toArray.size : Nat) : Int); simp; omega)]
        have : ((p.length : Int) + 1).toNat = p.length + 1 := by omega
        rw [this, ← extract_tail p 44 t]
      have hlen : (p ++ 44 :: t).length = p.length + 1 + t.length := by simp; omega
      have hw0 : wrap64 (p.length : Int) = p.length := by unfold wrap64; omega
      have hw1 : wrap64 ((p.length : Int) + 1) = p.length + 1 := by unfold wrap64; omega
      have hsp : splitC (p ++ 44 :: t) = p :: splitC t := splitC_at hno
      obtain ⟨fn, tmps, assign, body, hy, hR⟩ := hY pre p wr hJ (by rw [hx, hsp]; exact ⟨splitC t, by simp⟩)
      gi_wp2_with (refine ⟨trivial, fun _ => by omega, ?_⟩; gi_at_call 32; refine (callsIn_wide.2 (index_any _ m wr hl dm)).mono ?_; rintro e w' ⟨rfl, rfl⟩; rw [hi])
      refine ⟨fun _ => by omega, ?_⟩
      refine hR.mono ?_
      rintro e W3 (⟨rfl, hJ3, hk3⟩ | ⟨rfl, hJ3⟩)
      · have d0' : W3.cell? ⟨q, 0, none⟩ = some (.string ⟨(p ++ 44 :: t).toArray⟩) := (hk3.c 0 (by omega)).trans d0
        have d1' : W3.cell? ⟨q + 1, 0, none⟩ = some (.string ⟨#[44]⟩) := (hk3.c 1 (by omega)).trans d1
        have d2' : W3.cell? ⟨q + 2, 0, none⟩ = some (.int .i64 0) := (hk3.c 2 (by omega)).trans d2
        have df' : W3.frozen? ⟨q, 0, none⟩ = false := (hk3.f 0 (by omega)).trans df
        have dm' : W3.cell? ⟨0, 0, none⟩ = some (.int .i64 m) := hk3.m.trans dm
        gi_wp2
        go_roundw
        case rel =>
          refine ⟨pre ++ [p], t, by rw [hx, hsp]; simp, by simp at hl; omega, ?_, ?_, ?_, ?_, ?_, lJ _ _ _ hJ3⟩
          · exact World.cell?_setCell_same' _ _ _ (by rw [d0']; rfl)
          · rw [World.cell?_setCell_other _ _ _ _ (fun e => by simp at e)]; exact d1'
          · rw [World.cell?_setCell_other _ _ _ _ (fun e => by simp at e)]; exact d2'
          · rw [World.frozen?_setCell]; exact df'
          · rw [World.cell?_setCell_other _ _ _ _ (fun e => by simp at e)]; exact dm'
        case measure =>
          rw [boxLen_eq d0, boxLen_eq (World.cell?_setCell_same' W3 ⟨q, 0, none⟩ (.string ⟨t.toArray⟩) (by rw [d0']; rfl))]
          omega
      · gi_wp2
        refine bodyPost_ret (results_none rfl _ _ _) rfl ?_
        exact ⟨⟨_, rfl⟩, .inr ⟨_, by rw [hx, hsp]; exact ⟨splitC t, by simp⟩, hJ3⟩⟩
end Go.Proofs.YtphhdkffnboboaaGreatDoor
