/-
  Contracts: ranges.Parse of any text.
-/
import Derived.Test.YtphhdkffnboboaaGreatDoorPb
namespace Go.Proofs.YtphhdkffnboboaaGreatDoor
open Go.RowKit Go.Shelf
open Go.Lib
attribute [local go_sem] Oper.semAt_some

set_option maxHeartbeats 2000000 in
theorem parse_any (s : List UInt8) (w : World) (hs : s.length ≤ 100000) (hM : MX w) (hE : EV w) (hT : TZ w) :
    Calls Tryz.prog 8 #[.string ⟨s.toArray⟩] w (ParsePost (parseF s) w) := by
  by_cases hn : s = [110, 111, 110, 101]
  · have hF : parseF s = some [] := by unfold parseF; rw [if_pos hn]
    have hn1 : (s == [110, 111, 110, 101]) = true := by simp [hn]
    rw [hF]
    refine (callsIn_wide (n := 5)).1 ?_
    refine callsIn_of_wp_marks Tryz.func8 rfl trivial ?_ rfl
    simp only [Tryz.ntmps8, List.size_toArray, List.length_cons, List.length_nil, Nat.reduceAdd, Nat.reduceSub, Array.replicate_succ, Array.replicate_zero, List.push_toArray, List.append_toArray, List.nil_append, List.cons_append]
    gi_wp2
    refine ⟨.tuple #[.slice none 0 0, .int .i64 0], by simp [results, Tryz.f8, go_sem], ?_⟩
    exact ⟨((Below.refl _ w).alloc (Nat.le_refl _) _).alloc (by simp) _, none, 0, rfl, SW.nil _⟩
  · have hn1 : (s == [110, 111, 110, 101]) = false := by simpa using hn
    by_cases hc : 1000 ≤ s.count 44
    · have hF : parseF s = none := by unfold parseF; rw [if_neg hn, if_pos hc]
      have hc1 : decide ((1000 : Int) ≤ (s.count 44 : Nat)) = true := by simp; omega
      rw [hF]
      have CC := Lib.hid (fun W => count_any s W)
      refine (callsIn_wide (n := 5)).1 ?_
      refine callsIn_of_wp_marks Tryz.func8 rfl trivial ?_ rfl
      simp only [Tryz.ntmps8, List.size_toArray, List.length_cons, List.length_nil, Nat.reduceAdd, Nat.reduceSub, Array.replicate_succ, Array.replicate_zero, List.push_toArray, List.append_toArray, List.nil_append, List.cons_append]
      gi_wp2_with (refine ⟨trivial, ?_⟩; gi_at_call 18; refine (callsIn_wide.2 (CC.out _)).mono ?_; rintro e w' ⟨rfl, rfl⟩)
      refine ⟨.tuple #[.slice none 0 0, .int .i64 4], by simp [results, Tryz.f8, go_sem], ?_⟩
      exact ⟨((Below.refl _ w).alloc (Nat.le_refl _) _).alloc (by simp) _, rfl⟩
    · exact parse_loop s w hs hM hE hT hn1 hc (by simp; omega)
end Go.Proofs.YtphhdkffnboboaaGreatDoor
