/-
  EntityCuts: the walk of the law.
-/
import Derived.Test.YtpimadgcojgjaaaDoorOpn
import Derived.Test.YtpimadgcojgjaaaDoorWlw
namespace Go.Proofs.YtpimadgcojgjaaaDoor
open Go.RowKit Go.Shelf Go.Lib Go.Maps Go.Great
attribute [local irreducible] NR ZNR FR nmE NL

/-- []byte(s) of a string by name. -/
theorem conv_nm {SW : ByteArray} {Z : List UInt8} {n : Nat} (hS : (⟨Z.toArray⟩ : ByteArray) = SW) (hn : Z.length = n) (h : n ≤ 1000) (w : World) : ∃ cap W4, (convert 9 22 (.string SW)).run Tryd.prog w = .ok (.slice (some ⟨w.heap.size, 0, none⟩) n cap) W4 ∧ ByR W4 w.heap.size (nats Z) cap ∧ Below w.heap.size w W4 ∧ n ≤ cap ∧ cap ≤ 9223372036854775807 := by
  obtain ⟨cap, W4, h1, h2, h3⟩ := conv_str w Z (by omega)
  unfold strB at h1
  rw [hS, hn] at h1
  have hl := h2.le
  rw [nats_length, hn] at hl
  have hm := h2.mx
  unfold maxLen at hm
  exact ⟨cap, W4, h1, h2, h3, hl, by omega⟩
set_option maxHeartbeats 8000000 in
set_option maxRecDepth 100000 in
theorem cutsLaw16 (r : Int) (h0 : -2147483648 ≤ r) (h1 : r ≤ 2147483647) (k : Nat) (ys : List Nat) (A : Option Addr) (cap : Nat) (w : World) (hT : S.Tabs w) (hZ : S.TZ w) (h : BY w w.heap.size ys A cap) (hk : k ≤ 255) :
    Calls Tryd.prog 7 #[.int .i32 r, .int .u8 (k : Int), .slice A ys.length cap] w fun e w' => e = .returned (.bool true) ∧ Below w.heap.size w w' := by
  have hA := awake16_any w hT
  have hlen := h.l
  by_cases hl : 60 < ys.length
  · have hl2 : (60 : Int) < (ys.length : Int) := by omega
    have HA := Lib.hid hA
    clear hA hT h hZ hl hlen
    go_enter Tryd.func7, Tryd.ntmps7
    go_wp2_with fail
    refine HA.out.mono ?_
    rintro e w1 ⟨rfl, hb1⟩
    go_wp2_with fail
    go_ret
    exact ⟨rfl, hb1⟩
  have hwl := wrS_len r h1
  obtain ⟨M, hM⟩ : ∃ m, ys.length = m := ⟨_, rfl⟩
  rw [hM] at hl hlen ⊢
  have hl2 : ¬ (60 : Int) < (M : Int) := by omega
  obtain ⟨SW, hSW⟩ : ∃ S : ByteArray, ⟨(wrS r).toArray⟩ = S := ⟨_, rfl⟩
  obtain ⟨N, hN⟩ : ∃ n, (wrS r).length = n := ⟨_, rfl⟩
  have hsz : SW.size = N := by rw [← hSW, ← hN]; simp [ByteArray.size]
  have hV := fun W => rr_any r W
  obtain ⟨VB, hVB⟩ : ∃ b, Lib.validRune r = b := ⟨_, rfl⟩
  rw [hVB] at hV
  have HA := Lib.hid (And.intro hA (And.intro hT (And.intro hZ (And.intro h (And.intro hM (And.intro hSW (And.intro hN (And.intro hVB (And.intro hV (And.intro h0 h1))))))))))
  have hn10 : N ≤ 10 := by omega
  clear hA hT hZ h hM hSW hN hVB hV hwl hl hlen
  go_enter Tryd.func7, Tryd.ntmps7
  go_wp2_with fail
  refine HA.out.1.mono ?_
  rintro e w1 ⟨rfl, hb1⟩
  have C := ewrite_any r h0 h1 w1 (HA.out.2.1.below hb1 HA.out.2.1.2) (HA.out.2.2.1.below hb1)
  rw [HA.out.2.2.2.2.2.1] at C
  have H1 := Lib.hid (And.intro hb1 C)
  clear hb1 C
  go_wp2_with fail
  refine H1.out.2.mono ?_
  rintro e w2 ⟨rfl, hb2⟩
  have bw2 := H1.out.1.trans (hb2.mono H1.out.1.size)
  clear hb2
  by_cases hr : r = 0 ∨ VB = false
  · have hw := wr_empty (r := r) (hr.imp id fun e => by rw [HA.out.2.2.2.2.2.2.2.1]; exact e)
    have e : SW = ⟨#[]⟩ := by rw [← HA.out.2.2.2.2.2.1, hw]
    have HB := Lib.hid bw2
    rw [e]
    clear hw e hsz bw2
    by_cases r0 : r = 0
    · have d : (r == 0) = true := by simpa using r0
      clear hr r0
      go_wp2_with fail
      go_ret
      exact ⟨by first | rfl | simp, HB.out⟩
    · have d : (r == 0) = false := by simpa using r0
      have hv : VB = false := hr.resolve_left r0
      subst hv
      clear hr r0
      go_wp2_with fail
      refine (HA.out.2.2.2.2.2.2.2.2.1 _).mono ?_
      rintro e wx ⟨rfl, ex⟩
      obtain rfl := ex.symm
      clear ex
      go_wp2_with fail
      go_ret
      exact ⟨by first | rfl | simp, HB.out⟩
  have r0 : r ≠ 0 := fun e => hr (.inl e)
  have hv : VB = true := by cases VB with | true => rfl | false => exact absurd (.inr rfl) hr
  subst hv
  obtain ⟨l, e, hl1, hi, hrr⟩ := wr_ref r0 HA.out.2.2.2.2.2.2.2.1
  have hi0 : 0 ≤ innZ l := by omega
  have hNl : N = l.length + 2 := by rw [← HA.out.2.2.2.2.2.2.1, e, refB_len]
  have hnz : (SW.toList == []) = false := by
    rw [← HA.out.2.2.2.2.2.1, e]
    have e2 : (⟨(refB l).toArray⟩ : ByteArray).toList = refB l := by simp
    rw [e2]
    rfl
  have hm : k % N < N := Nat.mod_lt _ (by omega)
  obtain ⟨n, hn⟩ : ∃ n, k % N = n := ⟨_, rfl⟩
  rw [hn] at hm
  have hnk : ((k : Int) % (N : Int)) = (n : Int) := by rw [← hn]; simp
  have hco := cut_open hi0 (k := n) (by omega)
  have hws := whole_shut l
  have hrd := (read_ref l ys HA.out.2.2.2.1.i hl1 hi0).1
  rw [← e] at hco hws hrd
  rw [HA.out.2.2.2.2.2.2.1] at hrd
  have h256 : ∀ x ∈ nats (wrS r), x < 256 := nats_256 _
  obtain ⟨cp1, W1, cv1, R1, b1, l1, m1⟩ := conv_nm HA.out.2.2.2.2.2.1 HA.out.2.2.2.2.2.2.1 (by omega) w2
  have hzn : (nats (wrS r)).length = N := by rw [nats_length]; exact HA.out.2.2.2.2.2.2.1
  have hc0 : n < cp1 := by omega
  have bw3 := bw2.trans (b1.mono bw2.size)
  have hcn : ((n : Int)).toNat = n := by omega
  have htl : ((nats (wrS r)).take n).length = n := by rw [List.length_take]; omega
  have CR := readE_any W1 (HA.out.2.1.below bw3 HA.out.2.1.2) ((nats (wrS r)).take n) (some ⟨w2.heap.size, 0, none⟩) cp1 (R1.by.take n) 0 (by omega) (by omega)
  rw [hco.2, htl] at CR
  replace CR : Calls Tryd.prog 14 #[.slice (some ⟨w2.heap.size, 0, none⟩) n cp1, .int .i64 0] W1 fun e w' => e = .returned (.tuple #[.int .i32 0, .int .i64 0]) ∧ Below W1.heap.size W1 w' := CR
  have HB := Lib.hid (And.intro bw3 (And.intro CR (And.intro hco.1 (And.intro hws (And.intro hrd (And.intro hzn htl))))))
  have HL := Lib.hid (And.intro h256 (And.intro hNl hl1))
  have hn9 : n ≤ 9 := by omega
  have hN4 : (N : Int) ≠ 0 := by omega
  have hNb : (N : Int) ≤ 10 := by omega
  have hkb : (k : Int) ≤ 255 := by omega
  clear bw3 CR hco hws hrd hzn htl h256 hNl hl1 hi0 hi hrr e hr r0 bw2 R1 b1 hn
  go_wp2_with fail
  refine HB.out.2.1.mono ?_
  rintro e w5 ⟨rfl, hb5⟩
  have bw5 := HB.out.1.trans (hb5.mono HB.out.1.size)
  clear hb5
  obtain ⟨cp2, W6, cv2, R2, b2, l2, m2⟩ := conv_nm HA.out.2.2.2.2.2.1 HA.out.2.2.2.2.2.2.1 (by omega) w5
  have bw6 := bw5.trans (b2.mono bw5.size)
  have H6 := Lib.hid (And.intro R2 (And.intro (HA.out.2.2.2.1.on bw6) (And.intro bw6 (bw5.size))))
  clear R2 b2 bw6 bw5
  go_wp2_with (first
    | (at_builtin
       refine wpList_appM rfl (.tmp 47) (.tmp 48) rfl w5.heap.size w5.heap.size (Nat.le_refl _) (nats (wrS r)) ys N cp2 HB.out.2.2.2.2.2.1 rfl H6.out.1 A M cap HA.out.2.2.2.2.1 rfl H6.out.2.1 (by omega) ?_)
    | fail)
  intro A5 cp5 w7 hB7 hb7
  have bw7 : Below w.heap.size w w7 := H6.out.2.2.1.trans (hb7.mono H6.out.2.2.2)
  have CR := readE_any w7 (HA.out.2.1.below bw7 HA.out.2.1.2) (nats (wrS r) ++ ys) A5 cp5 hB7 0 (by omega) (by omega)
  have hln : (nats (wrS r) ++ ys).length = N + M := by rw [List.length_append, HB.out.2.2.2.2.2.1, HA.out.2.2.2.2.1]
  rw [hln, HB.out.2.2.2.2.1] at CR
  replace CR : Calls Tryd.prog 14 #[.slice A5 (N + M) cp5, .int .i64 0] w7 fun e w' => e = .returned (.tuple #[.int .i32 (innZ l), .int .i64 (N : Int)]) ∧ Below w7.heap.size w7 w' := CR
  have H7 := Lib.hid (And.intro bw7 CR)
  clear bw7 CR hB7 hb7 hln
  go_wp2_with fail
  refine H7.out.2.mono ?_
  rintro e w8 ⟨rfl, hb8⟩
  have bw8 := H7.out.1.trans (hb8.mono H7.out.1.size)
  clear hb8
  obtain ⟨cp3, W9, cv3, R3, b3, l3, m3⟩ := conv_nm HA.out.2.2.2.2.2.1 HA.out.2.2.2.2.2.2.1 (by omega) w8
  have bw9 := bw8.trans (b3.mono bw8.size)
  have hc3 : n < cp3 := by omega
  have CO := openE_any W9 ((nats (wrS r)).take n) (some ⟨w8.heap.size, 0, none⟩) cp3 (R3.by.take n)
  rw [HB.out.2.2.2.2.2.2, open_same _ (fun x hx => HL.out.1 x (List.mem_of_mem_take hx)), HB.out.2.2.1] at CO
  have H9 := Lib.hid (And.intro bw9 CO)
  clear bw9 CO R3 b3 bw8
  have e1 : decide (0 < n) = decide ((0 : Int) < (n : Int)) := by simp
  have HE := Lib.hid e1
  clear e1
  have d1 : ((N : Int) == (N : Int)) = true := by simp
  go_wp2_with fail
  refine H9.out.2.mono ?_
  rintro e w10 ⟨rfl, hb10⟩
  have bw10 := H9.out.1.trans (hb10.mono H9.out.1.size)
  clear hb10
  obtain ⟨cp4, W11, cv4, R4, b4, l4, m4⟩ := conv_nm HA.out.2.2.2.2.2.1 HA.out.2.2.2.2.2.2.1 (by omega) w10
  have bw11 := bw10.trans (b4.mono bw10.size)
  have CO := openE_any W11 (nats (wrS r)) (some ⟨w10.heap.size, 0, none⟩) cp4 R4.by
  rw [HB.out.2.2.2.2.2.1, open_same _ HL.out.1, HB.out.2.2.2.1] at CO
  have H11 := Lib.hid (And.intro bw11 CO)
  clear bw11 CO R4 b4 bw10
  rw [HE.out]
  by_cases hn0 : 0 < n
  · have q1 : (0 : Int) < (n : Int) := by omega
    have q2 : decide ((0 : Int) < (n : Int)) = true := by simpa using q1
    have q3 : (0 : Int) < (k : Int) % (N : Int) := by rw [hnk]; exact q1
    rw [q2]
    clear hn0
    go_wp2_with fail
    refine H11.out.2.mono ?_
    rintro e w12 ⟨rfl, hb12⟩
    have HB12 := Lib.hid (H11.out.1.trans (hb12.mono H11.out.1.size))
    clear hb12
    go_wp2_with fail
    go_ret
    exact ⟨by first | rfl | simp, HB12.out⟩
  · have q1 : ¬ (0 : Int) < (n : Int) := by omega
    have q2 : decide ((0 : Int) < (n : Int)) = false := by simpa using q1
    have q3 : ¬ (0 : Int) < (k : Int) % (N : Int) := by rw [hnk]; exact q1
    rw [q2]
    clear hn0
    go_wp2_with fail
    refine H11.out.2.mono ?_
    rintro e w12 ⟨rfl, hb12⟩
    have HB12 := Lib.hid (H11.out.1.trans (hb12.mono H11.out.1.size))
    clear hb12
    go_wp2_with fail
    go_ret
    exact ⟨by first | rfl | simp, HB12.out⟩
end Go.Proofs.YtpimadgcojgjaaaDoor
