/-
  Contracts: entity.Names, virguleref16.Names.
-/
import Derived.Test.YtpimadgcojgjaaaDoorFnd
import Derived.Test.YtpimadgcojgjaaaDoorApd
import Derived.Great.BuildSlice
namespace Go.Proofs.YtpimadgcojgjaaaDoor
open Go.RowKit Go.Shelf Go.Lib Go.Maps Go.Great

set_option maxRecDepth 100000 in
theorem index_rows (W : World) : ∀ (k : Nat) (x : NmE), nmE[k]? = some x → (Instr.index 76 (.agg NR) (.int .i64 (k : Int))).run Tryd.prog W = .ok (.agg #[.string ⟨x.1.toArray⟩, .int .i32 x.2]) W
  | 0, _, h => by cases h; kernel_rfl
  | 1, _, h => by cases h; kernel_rfl
  | 2, _, h => by cases h; kernel_rfl
  | 3, _, h => by cases h; kernel_rfl
  | 4, _, h => by cases h; kernel_rfl
  | 5, _, h => by cases h; kernel_rfl
  | 6, _, h => by cases h; kernel_rfl
  | 7, _, h => by cases h; kernel_rfl
  | 8, _, h => by cases h; kernel_rfl
  | 9, _, h => by cases h; kernel_rfl
  | 10, _, h => by cases h; kernel_rfl
  | 11, _, h => by cases h; kernel_rfl
  | 12, _, h => by cases h; kernel_rfl
  | 13, _, h => by cases h; kernel_rfl
  | 14, _, h => by cases h; kernel_rfl
  | 15, _, h => by cases h; kernel_rfl
  | 16, _, h => by cases h; kernel_rfl
  | 17, _, h => by cases h; kernel_rfl
  | 18, _, h => by cases h; kernel_rfl
  | 19, _, h => by cases h; kernel_rfl
  | 20, _, h => by cases h; kernel_rfl
  | 21, _, h => by cases h; kernel_rfl
  | 22, _, h => by cases h; kernel_rfl
  | 23, _, h => by cases h; kernel_rfl
  | 24, _, h => by cases h; kernel_rfl
  | 25, _, h => by cases h; kernel_rfl
  | k + 26, x, h => by
    have := (List.getElem?_eq_some_iff.1 h).1
    rw [nmE_len] at this
    omega
def nmStr (x : NmE) : ByteArray := ⟨x.1.toArray⟩
def NL : List ByteArray := nmE.map nmStr
theorem NL_len : NL.length = 26 := by rw [NL, List.length_map, nmE_len]
theorem NL_at {k : Nat} {x : NmE} (h : nmE[k]? = some x) : NL[k]? = some (nmStr x) := by rw [NL, List.getElem?_map, h]; rfl
attribute [local irreducible] wpList Code.wp NR ZNR FR nmE NL
theorem wpList_assignC {P : Program} {ops : Array Oper} {Q : Exit → Act → World → Prop} {rest : List Oper} {o : Oper} {a : Act} {w : World} (hg : o.guard = none) (x : Operand) (ho : o.op = .assign x) (h : wpList P ops Q rest (a.put o.dst (a.eval x)) w) : wpList P ops Q (o :: rest) a w :=
  wpList_plain hg fun _ hK => by
    unfold Oper.wp execOp
    simp only [ho]
    exact hK _ _ h
theorem nm_take {k : Nat} {x : NmE} (hx : nmE[k]? = some x) : NL.take (k + 1) = NL.take k ++ [nmStr x] := by
  rw [List.take_add_one, NL_at hx, Option.toList_some]
set_option maxHeartbeats 4000000 in
set_option maxRecDepth 100000 in
theorem names_any (w : World) : Calls Tryd.prog 21 #[] w fun e w' => ∃ v base, e = .returned v ∧ OwnS w' base NL v ∧ Below w.heap.size w w' := by
  go_enter Tryd.func21, Tryd.ntmps21
  go_wp2_with fail
  refine (rows_any _).mono ?_
  rintro r w1 ⟨rfl, hb1⟩
  have HI := Lib.hid index_rows
  have H1 := Lib.hid hb1
  clear hb1
  go_wp2_with fail
  go_loopw [1, 5] (fun v i wr => ∃ k : Nat, i = .int .i64 (k : Int) ∧ k ≤ 26 ∧ OwnS wr w1.heap.size (NL.take k) v ∧ Below w1.heap.size w1 wr) (fun _ i _ => 26 - (RowKit.intOf i).toNat)
  case atStart => exact ⟨0, rfl, by decide, ownS_nil _ _, Below.refl _ _⟩
  case round =>
    obtain ⟨k, rfl, hk, ho, hb⟩ := hrel
    by_cases hlt : k < 26
    case neg =>
      obtain rfl : k = 26 := by omega
      have he : OwnS wr w1.heap.size (NL.take 26) _ := ho
      rw [List.take_of_length_le (by rw [NL_len]; exact Nat.le_refl _)] at he
      have HE := Lib.hid (And.intro he hb)
      clear he ho hb
      go_wp2_with fail
      go_ret
      exact ⟨_, _, rfl, HE.out.1, H1.out.trans (HE.out.2.mono H1.out.size)⟩
    case pos =>
      have i1 : (k : Int) < 26 := by omega
      obtain ⟨⟨s, z⟩, hx⟩ := at_lt (l := nmE) (k := k) (by rw [nmE_len]; exact hlt)
      have hix := fun W => HI.out W k _ hx
      dsimp only at hix
      have hll : (NL.take k).length = k := by rw [List.length_take, NL_len]; omega
      have b2 := below_new wr (.cells #[.string ⟨s.toArray⟩, .int .i32 z] 70)
      have b3 := b2.trans ((below_new (wr.alloc (.cells #[.string ⟨s.toArray⟩, .int .i32 z] 70)) (.cells #[.string ⟨s.toArray⟩] 9)).mono (by simp))
      have ho3 := ho.below b3
      have c3 : ((wr.alloc (.cells #[.string ⟨s.toArray⟩, .int .i32 z] 70)).alloc (.cells #[.string ⟨s.toArray⟩] 9)).cell? ⟨wr.heap.size + 1, 0, none⟩ = some (.string ⟨s.toArray⟩) := by
        simp
      have bb : Below w1.heap.size w1 ((wr.alloc (.cells #[.string ⟨s.toArray⟩, .int .i32 z] 70)).alloc (.cells #[.string ⟨s.toArray⟩] 9)) := hb.trans (b3.mono hb.size)
      have HL := Lib.hid (And.intro ho3 (And.intro c3 (And.intro bb (And.intro hll hx))))
      clear ho3 c3 bb hll hx b2 b3 ho hb
      go_wp2_with (first
        | (at_builtin
           refine wpList_appS rfl (.tmp 8) (.tmp 11) rfl w1.heap.size _ (NL.take k) k HL.out.2.2.2.1 rfl HL.out.1 ⟨wr.heap.size + 1, 0, none⟩ ⟨s.toArray⟩ rfl HL.out.2.1 (by omega) HL.out.2.2.1.size ?_)
        | fail)
      intro g cp w4 h4 hb4
      have hend : ∃ k' : Nat, Value.int .i64 ((k : Int) + 1) = .int .i64 (k' : Int) ∧ k' ≤ 26 ∧ OwnS w4 w1.heap.size (NL.take k') (.slice (some ⟨g, 0, none⟩) (k + 1) cp) ∧ Below w1.heap.size w1 w4 :=
        ⟨k + 1, by simp, by omega, by rw [nm_take HL.out.2.2.2.2]; exact h4, HL.out.2.2.1.trans hb4⟩
      have HEND := Lib.hid hend
      clear hend h4 hb4
      go_wp2_with fail
      go_roundw
      case rel => exact HEND.out
      case measure => simp [RowKit.intOf]; omega

def FS (v : Value) : Array Value := (#[v] ++ (nmE.map fun x => Value.agg (ncell x).toArray).toArray) ++ #[undef]
theorem info39 : (Tryd.prog.info? 39).map (fun i => (i.zero, i.size)) = some (some (.agg #[.string ⟨#[]⟩, .int .i32 0]), 2) := by kernel_rfl
set_option maxHeartbeats 4000000 in
set_option maxRecDepth 100000 in
theorem refNames_any (w : World) : Calls Tryd.prog 22 #[] w fun e w' => e = .returned (.slice (some ⟨w.heap.size, 0, none⟩) 26 26) ∧ w' = w.alloc (.cells NR 39) := by
  refine calls_of_wp Tryd.func22 rfl ?_
  apply wp_seq_k; intro K hK
  apply wp_region_lit
  refine wpList_assignC rfl _ rfl ?_
  apply wpList_nil
  refine hK _ _ ?_
  clear hK K
  apply wp_seq_k; intro K hK
  apply wp_region_lit
  refine wpList_splitAt 26 _ (List.take_append_drop 26 _).symm ?_
  refine wpList_builds _ _ (FS (.slice none 0 0)) (by as_aux_lemma => kernel_rfl) ?_
  cases hie : Tryd.prog.info? 39 with
  | none => have := info39; rw [hie] at this; cases this
  | some ie =>
    have h39 := info39
    rw [hie] at h39
    simp only [Option.map_some, Option.some.injEq, Prod.mk.injEq] at h39
    refine wpList_buildSlice rfl 34 39 26 _ rfl NR ie _ (by as_aux_lemma => kernel_rfl) hie h39.1 (by rw [h39.2]; decide) (by rw [h39.2]; decide) (by rw [h39.2]; as_aux_lemma => kernel_rfl) ?_
    refine wpList_assignC rfl _ rfl ?_
    apply wpList_nil
    refine hK _ _ ?_
    refine wp_ret ?_
    refine bodyPost_ret (v := .slice (some ⟨w.heap.size, 0, none⟩) 26 26) ?_ rfl ⟨rfl, rfl⟩
    kernel_rfl
end Go.Proofs.YtpimadgcojgjaaaDoor
