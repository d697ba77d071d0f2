/-
  Contracts: virguleref03.Get; the law's own may.
-/
import Derived.Test.YtphhdkffnboboaaTg
import Derived.Test.YtphhdkffnboboaaRg3
namespace Go.Proofs.Ytphhdkffnboboaa
open Go.RowKit Go.Shelf
open Go.Lib Go.Great Go.Maps

/-- What the document's answer tells of a number. -/
def hitE (r : Int) (e : En) : Bool := hasR e.xs r && decide (0 ≤ r) && decide (r ≤ 1114111)
def getE (o : Int) (es : List En) (r : Int) : Int := es.foldl (fun v e => if hitE r e then e.c else v) o
theorem getE_snoc (o : Int) (es : List En) (r : Int) (k : Nat) (e : En) (h : es[k]? = some e) : getE o (es.take (k + 1)) r = if hitE r e then e.c else getE o (es.take k) r := by
  rw [List.take_add_one, h]
  simp [getE]

set_option maxHeartbeats 4000000 in
set_option maxRecDepth 100000 in
theorem rget_any (o : Int) (A : Option Addr) (cap : Nat) (es : List En) (r : Int) (w : World) (h : ES w w.heap.size A cap es) (r0 : -2147483648 ≤ r) (r1 : r ≤ 2147483647) :
    Calls Try.prog 19 #[.int .i64 o, .slice A es.length cap, .int .i32 r] w fun e w' => e = .returned (.int .i64 (getE o es r)) ∧ w' = w := by
  have H := Lib.hid h
  have hm : es.length ≤ maxLen := by have := h.1; have := h.2.1; omega
  unfold maxLen at hm
  obtain ⟨n, hn⟩ : ∃ n, es.length = n := ⟨_, rfl⟩
  have HN := Lib.hid hn
  obtain ⟨R, hR⟩ : ∃ R, R = getE o es r := ⟨_, rfl⟩
  have HR := Lib.hid hR
  rw [← hR, hn]
  rw [hn] at hm
  clear h hn hR
  go_enter Try.func19, Try.ntmps19
  go_wp2_with fail
  go_loopw [7, 8] (fun v i wr => ∃ k : Nat, i = .int .i64 (k : Int) ∧ k ≤ n ∧ wr = w ∧ v = .int .i64 (getE o (es.take k) r)) (fun _ i _ => n - (RowKit.intOf i).toNat)
  case atStart => exact ⟨0, rfl, Nat.zero_le _, rfl, rfl⟩
  case round =>
    obtain ⟨k, rfl, hk, rfl, rfl⟩ := hrel
    by_cases hlt : k < n
    · obtain ⟨x, hx⟩ : ∃ x, es[k]? = some x := ⟨es[k]'(by rw [HN.out]; exact hlt), List.getElem?_eq_getElem _⟩
      obtain ⟨b, o', rfl, hbl, hE⟩ := H.out.2.2.2 (by intro e; rw [e] at hx; simp at hx)
      obtain ⟨q1, q2⟩ := hE k x hx
      have HX := Lib.hid (getE_snoc o es r k x hx)
      have C := in_any x.A x.cap x.xs r r0 r1 wr (H.out.2.2.1 x (List.mem_of_getElem? hx))
      have i1 : (k : Int) < (n : Int) := by omega
      unfold hitE at HX
      obtain ⟨A1, cap1, xs1, c1⟩ := x
      simp only at q1 q2 C HX
      generalize hasR xs1 r = q at *
      generalize xs1.length = n1 at *
      generalize getE o (es.take k) r = v0 at *
      have C := Lib.hid C
      clear hE hx
      cases q with
      | false =>
        simp only [Bool.false_and, Bool.false_eq_true, if_false] at HX
        go_wp2_with fail
        refine C.out.mono ?_
        rintro e w1 ⟨rfl, rfl⟩
        go_wp2_with fail
        go_roundw
        case rel => exact ⟨k + 1, by go_num, by omega, by trivial, by rw [HX.out]⟩
        case measure => simp [RowKit.intOf]; omega
      | true =>
        by_cases c0 : 0 ≤ r
        · by_cases c2 : r ≤ 1114111
          · simp only [Bool.true_and, c0, c2, decide_true, Bool.and_self, if_true] at HX
            go_wp2_with fail
            refine C.out.mono ?_
            rintro e w1 ⟨rfl, rfl⟩
            go_wp2_with fail
            go_roundw
            case rel => exact ⟨k + 1, by go_num, by omega, by trivial, by rw [HX.out]⟩
            case measure => simp [RowKit.intOf]; omega
          · have d2 : decide (r ≤ 1114111) = false := by simpa using c2
            simp only [Bool.true_and, c0, d2, decide_true, Bool.and_false, Bool.false_eq_true, if_false] at HX
            go_wp2_with fail
            refine C.out.mono ?_
            rintro e w1 ⟨rfl, rfl⟩
            go_wp2_with fail
            go_roundw
            case rel => exact ⟨k + 1, by go_num, by omega, by trivial, by rw [HX.out]⟩
            case measure => simp [RowKit.intOf]; omega
        · have d0 : decide (0 ≤ r) = false := by simpa using c0
          simp only [Bool.true_and, d0, Bool.false_and, Bool.false_eq_true, if_false] at HX
          go_wp2_with fail
          refine C.out.mono ?_
          rintro e w1 ⟨rfl, rfl⟩
          go_wp2_with fail
          go_roundw
          case rel => exact ⟨k + 1, by go_num, by omega, by trivial, by rw [HX.out]⟩
          case measure => simp [RowKit.intOf]; omega
    · have e : getE o (es.take k) r = R := by rw [HR.out, List.take_of_length_le (by rw [HN.out]; omega)]
      rw [e]
      have i1 : ¬ (k : Int) < (n : Int) := by omega
      have d1 : decide ((k : Int) < (n : Int)) = false := by simp; omega
      clear e
      go_wp2_with fail
      go_ret
      exact ⟨rfl, rfl⟩

/-- May entries, and the other class, be? -/
def mayE (o : Int) (es : List En) : Bool := cls o && es.all (fun e => right e.xs && cls e.c)
theorem mayE_snoc (o : Int) (es : List En) (k : Nat) (e : En) (h : es[k]? = some e) : mayE o (es.take (k + 1)) = (mayE o (es.take k) && (right e.xs && cls e.c)) := by
  unfold mayE
  rw [List.take_add_one, h, List.all_append]
  simp [Bool.and_assoc]
theorem mayE_wrong (o : Int) (es : List En) : mayE o es = (cls o && !es.any wrongE) := by
  unfold mayE
  congr 1
  induction es with
  | nil => rfl
  | cons x xs ih => rw [List.all_cons, List.any_cons, ih]; unfold wrongE; cases right x.xs <;> cases cls x.c <;> cases xs.any wrongE <;> rfl

set_option maxHeartbeats 8000000 in
set_option maxRecDepth 100000 in
theorem lawmay_any (o : Int) (A : Option Addr) (cap : Nat) (es : List En) (w : World) (h : ES w w.heap.size A cap es) :
    Calls Try.prog 17 #[.int .i64 o, .slice A es.length cap] w fun e w' => e = .returned (.bool (mayE o es)) ∧ Below w.heap.size w w' := by
  have H := Lib.hid h
  have hm : es.length ≤ maxLen := by have := h.1; have := h.2.1; omega
  unfold maxLen at hm
  obtain ⟨n, hn⟩ : ∃ n, es.length = n := ⟨_, rfl⟩
  have HN := Lib.hid hn
  obtain ⟨R, hR⟩ : ∃ R, R = mayE o es := ⟨_, rfl⟩
  have HR := Lib.hid hR
  rw [← hR, hn]
  rw [hn] at hm
  clear h hn hR
  obtain ⟨q0, hq0⟩ : ∃ q0, cls o = q0 := ⟨_, rfl⟩
  have HQ0 := Lib.hid hq0
  clear hq0
  have start : ∀ (P : Prop), (q0 = (decide (0 ≤ o) && decide (o ≤ 255)) → P) → P := fun P f => f (by rw [← HQ0.out]; rfl)
  have H0 : (0 ≤ o ∧ o ≤ 255 ∧ q0 = true) ∨ (decide (0 ≤ o) = false ∧ q0 = false) ∨ (0 ≤ o ∧ decide (o ≤ 255) = false ∧ q0 = false) := by
    have e : q0 = (decide (0 ≤ o) && decide (o ≤ 255)) := by rw [← HQ0.out]; rfl
    by_cases c1 : 0 ≤ o
    · by_cases c2 : o ≤ 255
      · exact .inl ⟨c1, c2, by rw [e]; simp [c1, c2]⟩
      · exact .inr (.inr ⟨c1, by simpa using c2, by rw [e]; simp [c2]⟩)
    · exact .inr (.inl ⟨by simpa using c1, by rw [e]; simp [c1]⟩)
  clear start
  rcases H0 with ⟨a1, a2, rfl⟩ | ⟨a1, rfl⟩ | ⟨a1, a2, rfl⟩
  · go_enter Try.func17, Try.ntmps17
    go_wp2_with fail
    go_loopw [5, 6] (fun v i wr => ∃ k : Nat, i = .int .i64 (k : Int) ∧ k ≤ n ∧ Below w.heap.size w wr ∧ v = .bool (mayE o (es.take k))) (fun _ i _ => n - (RowKit.intOf i).toNat)
    case atStart => exact ⟨0, rfl, Nat.zero_le _, Below.refl _ _, by unfold mayE; rw [HQ0.out]; rfl⟩
    case round =>
      obtain ⟨k, rfl, hk, hb, rfl⟩ := hrel
      by_cases hlt : k < n
      · obtain ⟨x, hx⟩ : ∃ x, es[k]? = some x := ⟨es[k]'(by rw [HN.out]; exact hlt), List.getElem?_eq_getElem _⟩
        obtain ⟨b, o', rfl, hbl, hE⟩ := H.out.2.2.2 (by intro e; rw [e] at hx; simp at hx)
        obtain ⟨q1, q2⟩ := hE k x hx
        have p1 := (hb.cell (p := ⟨b, o' + k * 2, none⟩) hbl).trans q1
        have p2 := (hb.cell (p := ⟨b, o' + k * 2 + 1, none⟩) hbl).trans q2
        have HX := Lib.hid (mayE_snoc o es k x hx)
        have C := rright_any x.A x.cap x.xs wr (((H.out.2.2.1 x (List.mem_of_getElem? hx)).below hb).mono hb.size)
        have i1 : (k : Int) < (n : Int) := by omega
        unfold cls at HX
        obtain ⟨A1, cap1, xs1, c1⟩ := x
        simp only at q1 q2 p1 p2 C HX
        generalize right xs1 = q at *
        generalize xs1.length = n1 at *
        generalize mayE o (es.take k) = v0 at *
        have C := Lib.hid C
        have HB := Lib.hid hb
        have HE := Lib.hid hE
        have HBL := Lib.hid hbl
        clear hE hx q1 q2 hb
        cases v0 with
        | false =>
          simp only [Bool.false_and] at HX
          have hbz := HB.out
          go_wp2_with fail
          go_roundw
          case rel => exact ⟨k + 1, by go_num, by omega, hbz, by rw [HX.out]⟩
          case measure => simp [RowKit.intOf]; omega
        | true =>
          cases q with
          | false =>
            simp only [Bool.false_and, Bool.and_false] at HX
            go_wp2_with fail
            refine C.out.mono ?_
            rintro e w2 ⟨rfl, hb2⟩
            have hbz := HB.out.trans (hb2.mono HB.out.size)
            go_wp2_with fail
            go_roundw
            case rel => exact ⟨k + 1, by go_num, by omega, hbz, by rw [HX.out]⟩
            case measure => simp [RowKit.intOf]; omega
          | true =>
            go_wp2_with fail
            refine C.out.mono ?_
            rintro e w2 ⟨rfl, hb2⟩
            have hbz := HB.out.trans (hb2.mono HB.out.size)
            have hsz := HB.out.size
            have p3 := (hb2.cell (p := ⟨b, o' + k * 2 + 1, none⟩) (by show b < wr.heap.size; have := HBL.out; omega)).trans p2
            by_cases d1 : 0 ≤ c1
            · by_cases d2 : c1 ≤ 255
              · simp only [d1, d2, decide_true, Bool.and_self] at HX
                go_wp2_with fail
                go_roundw
                case rel => exact ⟨k + 1, by go_num, by omega, hbz, by rw [HX.out]⟩
                case measure => simp [RowKit.intOf]; omega
              · have d2' : decide (c1 ≤ 255) = false := by simpa using d2
                simp only [d2', Bool.and_false] at HX
                go_wp2_with fail
                go_roundw
                case rel => exact ⟨k + 1, by go_num, by omega, hbz, by rw [HX.out]⟩
                case measure => simp [RowKit.intOf]; omega
            · have d1' : decide (0 ≤ c1) = false := by simpa using d1
              simp only [d1', Bool.false_and, Bool.and_false] at HX
              go_wp2_with fail
              go_roundw
              case rel => exact ⟨k + 1, by go_num, by omega, hbz, by rw [HX.out]⟩
              case measure => simp [RowKit.intOf]; omega
      · have e : mayE o (es.take k) = R := by rw [HR.out, List.take_of_length_le (by rw [HN.out]; omega)]
        rw [e]
        have i1 : ¬ (k : Int) < (n : Int) := by omega
        have d1 : decide ((k : Int) < (n : Int)) = false := by simp; omega
        clear e
        go_wp2_with fail
        go_ret
        exact ⟨rfl, hb⟩
  · go_enter Try.func17, Try.ntmps17
    go_wp2_with fail
    go_loopw [5, 6] (fun v i wr => ∃ k : Nat, i = .int .i64 (k : Int) ∧ k ≤ n ∧ Below w.heap.size w wr ∧ v = .bool (mayE o (es.take k))) (fun _ i _ => n - (RowKit.intOf i).toNat)
    case atStart => exact ⟨0, rfl, Nat.zero_le _, Below.refl _ _, by unfold mayE; rw [HQ0.out]; rfl⟩
    case round =>
      obtain ⟨k, rfl, hk, hb, rfl⟩ := hrel
      by_cases hlt : k < n
      · obtain ⟨x, hx⟩ : ∃ x, es[k]? = some x := ⟨es[k]'(by rw [HN.out]; exact hlt), List.getElem?_eq_getElem _⟩
        obtain ⟨b, o', rfl, hbl, hE⟩ := H.out.2.2.2 (by intro e; rw [e] at hx; simp at hx)
        obtain ⟨q1, q2⟩ := hE k x hx
        have p1 := (hb.cell (p := ⟨b, o' + k * 2, none⟩) hbl).trans q1
        have p2 := (hb.cell (p := ⟨b, o' + k * 2 + 1, none⟩) hbl).trans q2
        have HX := Lib.hid (mayE_snoc o es k x hx)
        have C := rright_any x.A x.cap x.xs wr (((H.out.2.2.1 x (List.mem_of_getElem? hx)).below hb).mono hb.size)
        have i1 : (k : Int) < (n : Int) := by omega
        unfold cls at HX
        obtain ⟨A1, cap1, xs1, c1⟩ := x
        simp only at q1 q2 p1 p2 C HX
        generalize right xs1 = q at *
        generalize xs1.length = n1 at *
        generalize mayE o (es.take k) = v0 at *
        have C := Lib.hid C
        have HB := Lib.hid hb
        have HE := Lib.hid hE
        have HBL := Lib.hid hbl
        clear hE hx q1 q2 hb
        cases v0 with
        | false =>
          simp only [Bool.false_and] at HX
          have hbz := HB.out
          go_wp2_with fail
          go_roundw
          case rel => exact ⟨k + 1, by go_num, by omega, hbz, by rw [HX.out]⟩
          case measure => simp [RowKit.intOf]; omega
        | true =>
          cases q with
          | false =>
            simp only [Bool.false_and, Bool.and_false] at HX
            go_wp2_with fail
            refine C.out.mono ?_
            rintro e w2 ⟨rfl, hb2⟩
            have hbz := HB.out.trans (hb2.mono HB.out.size)
            go_wp2_with fail
            go_roundw
            case rel => exact ⟨k + 1, by go_num, by omega, hbz, by rw [HX.out]⟩
            case measure => simp [RowKit.intOf]; omega
          | true =>
            go_wp2_with fail
            refine C.out.mono ?_
            rintro e w2 ⟨rfl, hb2⟩
            have hbz := HB.out.trans (hb2.mono HB.out.size)
            have hsz := HB.out.size
            have p3 := (hb2.cell (p := ⟨b, o' + k * 2 + 1, none⟩) (by show b < wr.heap.size; have := HBL.out; omega)).trans p2
            by_cases d1 : 0 ≤ c1
            · by_cases d2 : c1 ≤ 255
              · simp only [d1, d2, decide_true, Bool.and_self] at HX
                go_wp2_with fail
                go_roundw
                case rel => exact ⟨k + 1, by go_num, by omega, hbz, by rw [HX.out]⟩
                case measure => simp [RowKit.intOf]; omega
              · have d2' : decide (c1 ≤ 255) = false := by simpa using d2
                simp only [d2', Bool.and_false] at HX
                go_wp2_with fail
                go_roundw
                case rel => exact ⟨k + 1, by go_num, by omega, hbz, by rw [HX.out]⟩
                case measure => simp [RowKit.intOf]; omega
            · have d1' : decide (0 ≤ c1) = false := by simpa using d1
              simp only [d1', Bool.false_and, Bool.and_false] at HX
              go_wp2_with fail
              go_roundw
              case rel => exact ⟨k + 1, by go_num, by omega, hbz, by rw [HX.out]⟩
              case measure => simp [RowKit.intOf]; omega
      · have e : mayE o (es.take k) = R := by rw [HR.out, List.take_of_length_le (by rw [HN.out]; omega)]
        rw [e]
        have i1 : ¬ (k : Int) < (n : Int) := by omega
        have d1 : decide ((k : Int) < (n : Int)) = false := by simp; omega
        clear e
        go_wp2_with fail
        go_ret
        exact ⟨rfl, hb⟩
  · go_enter Try.func17, Try.ntmps17
    go_wp2_with fail
    go_loopw [5, 6] (fun v i wr => ∃ k : Nat, i = .int .i64 (k : Int) ∧ k ≤ n ∧ Below w.heap.size w wr ∧ v = .bool (mayE o (es.take k))) (fun _ i _ => n - (RowKit.intOf i).toNat)
    case atStart => exact ⟨0, rfl, Nat.zero_le _, Below.refl _ _, by unfold mayE; rw [HQ0.out]; rfl⟩
    case round =>
      obtain ⟨k, rfl, hk, hb, rfl⟩ := hrel
      by_cases hlt : k < n
      · obtain ⟨x, hx⟩ : ∃ x, es[k]? = some x := ⟨es[k]'(by rw [HN.out]; exact hlt), List.getElem?_eq_getElem _⟩
        obtain ⟨b, o', rfl, hbl, hE⟩ := H.out.2.2.2 (by intro e; rw [e] at hx; simp at hx)
        obtain ⟨q1, q2⟩ := hE k x hx
        have p1 := (hb.cell (p := ⟨b, o' + k * 2, none⟩) hbl).trans q1
        have p2 := (hb.cell (p := ⟨b, o' + k * 2 + 1, none⟩) hbl).trans q2
        have HX := Lib.hid (mayE_snoc o es k x hx)
        have C := rright_any x.A x.cap x.xs wr (((H.out.2.2.1 x (List.mem_of_getElem? hx)).below hb).mono hb.size)
        have i1 : (k : Int) < (n : Int) := by omega
        unfold cls at HX
        obtain ⟨A1, cap1, xs1, c1⟩ := x
        simp only at q1 q2 p1 p2 C HX
        generalize right xs1 = q at *
        generalize xs1.length = n1 at *
        generalize mayE o (es.take k) = v0 at *
        have C := Lib.hid C
        have HB := Lib.hid hb
        have HE := Lib.hid hE
        have HBL := Lib.hid hbl
        clear hE hx q1 q2 hb
        cases v0 with
        | false =>
          simp only [Bool.false_and] at HX
          have hbz := HB.out
          go_wp2_with fail
          go_roundw
          case rel => exact ⟨k + 1, by go_num, by omega, hbz, by rw [HX.out]⟩
          case measure => simp [RowKit.intOf]; omega
        | true =>
          cases q with
          | false =>
            simp only [Bool.false_and, Bool.and_false] at HX
            go_wp2_with fail
            refine C.out.mono ?_
            rintro e w2 ⟨rfl, hb2⟩
            have hbz := HB.out.trans (hb2.mono HB.out.size)
            go_wp2_with fail
            go_roundw
            case rel => exact ⟨k + 1, by go_num, by omega, hbz, by rw [HX.out]⟩
            case measure => simp [RowKit.intOf]; omega
          | true =>
            go_wp2_with fail
            refine C.out.mono ?_
            rintro e w2 ⟨rfl, hb2⟩
            have hbz := HB.out.trans (hb2.mono HB.out.size)
            have hsz := HB.out.size
            have p3 := (hb2.cell (p := ⟨b, o' + k * 2 + 1, none⟩) (by show b < wr.heap.size; have := HBL.out; omega)).trans p2
            by_cases d1 : 0 ≤ c1
            · by_cases d2 : c1 ≤ 255
              · simp only [d1, d2, decide_true, Bool.and_self] at HX
                go_wp2_with fail
                go_roundw
                case rel => exact ⟨k + 1, by go_num, by omega, hbz, by rw [HX.out]⟩
                case measure => simp [RowKit.intOf]; omega
              · have d2' : decide (c1 ≤ 255) = false := by simpa using d2
                simp only [d2', Bool.and_false] at HX
                go_wp2_with fail
                go_roundw
                case rel => exact ⟨k + 1, by go_num, by omega, hbz, by rw [HX.out]⟩
                case measure => simp [RowKit.intOf]; omega
            · have d1' : decide (0 ≤ c1) = false := by simpa using d1
              simp only [d1', Bool.false_and, Bool.and_false] at HX
              go_wp2_with fail
              go_roundw
              case rel => exact ⟨k + 1, by go_num, by omega, hbz, by rw [HX.out]⟩
              case measure => simp [RowKit.intOf]; omega
      · have e : mayE o (es.take k) = R := by rw [HR.out, List.take_of_length_le (by rw [HN.out]; omega)]
        rw [e]
        have i1 : ¬ (k : Int) < (n : Int) := by omega
        have d1 : decide ((k : Int) < (n : Int)) = false := by simp; omega
        clear e
        go_wp2_with fail
        go_ret
        exact ⟨rfl, hb⟩
end Go.Proofs.Ytphhdkffnboboaa
