/-
  EntityWrites: the walk of the law.
-/
import Derived.Test.YtpimadgcojgjaaaDoorWmt
import Derived.Test.YtpimadgcojgjaaaDoorAwa
import Derived.Test.YtpimadgcojgjaaaDoorApm
namespace Go.Proofs.YtpimadgcojgjaaaDoor
open Go.RowKit Go.Shelf Go.Lib Go.Maps Go.Great
attribute [local irreducible] NR ZNR FR nmE NL

theorem wrS_len (r : Int) (h1 : r ≤ 2147483647) : (wrS r).length ≤ 10 := by
  by_cases h : r = 0 ∨ Lib.validRune r = false
  · rw [wr_empty h]; simp
  · obtain ⟨l, e, hl, hi, hr⟩ := wr_ref (r := r) (by intro e; exact h (.inl e)) (by cases hv : Lib.validRune r with | true => rfl | false => exact absurd (.inr hv) h)
    rw [e]
    exact (read_ref l [] (by simp) hl (by omega)).2
set_option maxHeartbeats 8000000 in
set_option maxRecDepth 100000 in
theorem writesLaw16 (r : Int) (h0 : -2147483648 ≤ r) (h1 : r ≤ 2147483647) (ys : List Nat) (A : Option Addr) (cap : Nat) (w : World) (hT : S.Tabs w) (hZ : S.TZ w) (h : BY w w.heap.size ys A cap) :
    Calls Tryd.prog 5 #[.int .i32 r, .slice A ys.length cap] w fun e w' => e = .returned (.bool true) ∧ Below w.heap.size w w' := by
  have hA := awake16_any w hT
  have hlen := h.l
  by_cases hl : 60 < ys.length
  · have hl2 : (60 : Int) < (ys.length : Int) := by omega
    have HA := Lib.hid hA
    clear hA hT h hZ hl hlen
    go_enter Tryd.func5, Tryd.ntmps5
    go_wp2_with fail
    refine HA.out.mono ?_
    rintro e w1 ⟨rfl, hb1⟩
    go_wp2_with fail
    go_ret
    exact ⟨rfl, hb1⟩
  have hwl := wrS_len r h1
  obtain ⟨M, hM⟩ : ∃ m, ys.length = m := ⟨_, rfl⟩
  rw [hM] at hl hlen ⊢
  have hl2 : ¬ (60 : Int) < (M : Int) := by omega
  obtain ⟨SW, hSW⟩ : ∃ S : ByteArray, ⟨(wrS r).toArray⟩ = S := ⟨_, rfl⟩
  obtain ⟨n, hn⟩ : ∃ n, (wrS r).length = n := ⟨_, rfl⟩
  have hsz : SW.size = n := by rw [← hSW, ← hn]; simp [ByteArray.size]
  have hne : (SW.toList != SW.toList) = false := by simp
  have hV := fun W => rr_any r W
  obtain ⟨VB, hVB⟩ : ∃ b, Lib.validRune r = b := ⟨_, rfl⟩
  rw [hVB] at hV
  have HA := Lib.hid (And.intro hA (And.intro hT (And.intro hZ (And.intro h (And.intro hM (And.intro hSW (And.intro hn (And.intro hVB (And.intro hV (And.intro h0 h1))))))))))
  have hn10 : n ≤ 10 := by omega
  clear hA hT hZ h hM hSW hn hVB hV hwl hl hlen
  go_enter Tryd.func5, Tryd.ntmps5
  go_wp2_with fail
  refine HA.out.1.mono ?_
  rintro e w1 ⟨rfl, hb1⟩
  have C := ewrite_any r h0 h1 w1 (HA.out.2.1.below hb1 HA.out.2.1.2) (HA.out.2.2.1.below hb1)
  rw [HA.out.2.2.2.2.2.1] at C
  have H1 := Lib.hid (And.intro hb1 C)
  clear hb1 C
  go_wp2_with fail
  refine H1.out.2.mono ?_
  rintro e w2 ⟨rfl, hb2⟩
  have C := rwrite_any r h0 h1 w2
  rw [HA.out.2.2.2.2.2.1] at C
  have H2 := Lib.hid (And.intro (H1.out.1.trans (hb2.mono H1.out.1.size)) C)
  clear hb2 C
  go_wp2_with fail
  refine H2.out.2.mono ?_
  rintro e w3 ⟨rfl, hb3⟩
  have bw3 := H2.out.1.trans (hb3.mono H2.out.1.size)
  obtain ⟨cap4, W4, hcv, hR4, hb4⟩ := conv_str w3 (wrS r) (by rw [HA.out.2.2.2.2.2.2.1]; omega)
  unfold strB at hcv
  rw [HA.out.2.2.2.2.2.1, HA.out.2.2.2.2.2.2.1] at hcv
  have bw4 := bw3.trans (hb4.mono bw3.size)
  have y4 : BY W4 W4.heap.size ys A cap := HA.out.2.2.2.1.on bw4
  have hzn : (nats (wrS r)).length = n := by rw [nats_length]; exact HA.out.2.2.2.2.2.2.1
  have H4 := Lib.hid (And.intro hR4 (And.intro y4 (And.intro bw4 (And.intro hzn bw3.size))))
  clear hR4 y4 bw4 hzn bw3 hb3 hb4
  go_wp2_with (first
    | (at_builtin
       refine wpList_appM rfl (.tmp 24) (.tmp 25) rfl w3.heap.size w3.heap.size (Nat.le_refl _) (nats (wrS r)) ys n cap4 H4.out.2.2.2.1 rfl H4.out.1 A M cap HA.out.2.2.2.2.1 rfl H4.out.2.1 (by omega) ?_)
    | fail)
  intro A5 cp5 w5 hB5 hb5
  have bw5 : Below w.heap.size w w5 := H4.out.2.2.1.trans (hb5.mono H4.out.2.2.2.2)
  have CR := readE_any w5 (HA.out.2.1.below bw5 HA.out.2.1.2) (nats (wrS r) ++ ys) A5 cp5 hB5 0 (by omega) (by omega)
  have hln : (nats (wrS r) ++ ys).length = n + M := by rw [List.length_append, H4.out.2.2.2.1, HA.out.2.2.2.2.1]
  rw [hln] at CR
  obtain ⟨RE, hRE⟩ : ∃ v, readE (nats (wrS r) ++ ys) 0 = v := ⟨_, rfl⟩
  rw [hRE] at CR
  have H5 := Lib.hid (And.intro bw5 (And.intro CR hRE))
  clear bw5 CR hRE hB5 hb5 hln
  go_wp2_with fail
  refine H5.out.2.1.mono ?_
  rintro e w6 ⟨rfl, hb6⟩
  have HB := Lib.hid (H5.out.1.trans (hb6.mono H5.out.1.size))
  clear hb6
  by_cases r0 : r = 0
  · have hw := wr_empty (r := r) (.inl r0)
    have e : SW = ⟨#[]⟩ := by rw [← HA.out.2.2.2.2.2.1, hw]
    have d : (r == 0) = true := by simpa using r0
    rw [e]
    clear hw e r0 hne hsz
    go_wp2_with fail
    go_ret
    exact ⟨by first | rfl | simp, HB.out⟩
  have d : (r == 0) = false := by simpa using r0
  cases VB with
  | false =>
    have hw := wr_empty (r := r) (.inr HA.out.2.2.2.2.2.2.2.1)
    have e : SW = ⟨#[]⟩ := by rw [← HA.out.2.2.2.2.2.1, hw]
    rw [e]
    clear hw e r0 hne hsz
    go_wp2_with fail
    refine (HA.out.2.2.2.2.2.2.2.2.1 _).mono ?_
    rintro e wx ⟨rfl, ex⟩
    obtain rfl := ex.symm
    clear ex
    go_wp2_with fail
    go_ret
    exact ⟨by first | rfl | simp, HB.out⟩
  | true =>
    obtain ⟨l, e, hl1, hi, hr⟩ := wr_ref r0 HA.out.2.2.2.2.2.2.2.1
    have hrd := (read_ref l ys HA.out.2.2.2.1.i hl1 (by omega)).1
    rw [← e, H5.out.2.2, hi, HA.out.2.2.2.2.2.2.1] at hrd
    subst hrd
    have d1 : (r == r) = true := by simp
    have d2 : ((n : Int) == (n : Int)) = true := by simp
    have d3 : (n : Int) ≤ 10 := by omega
    have d4 : decide ((n : Int) ≤ 10) = true := by simpa using d3
    clear e hl1 hi hr r0
    go_wp2_with fail
    refine (HA.out.2.2.2.2.2.2.2.2.1 _).mono ?_
    rintro e wx ⟨rfl, ex⟩
    obtain rfl := ex.symm
    clear ex
    go_wp2_with fail
    go_ret
    exact ⟨by first | rfl | simp, HB.out⟩
end Go.Proofs.YtpimadgcojgjaaaDoor
