/-
  Contracts: virguleref03.Get; the law's own may.
  Contracts: the law's own To: entries.
  prop.Trie: a trie that tells each number's class.
-/
import Derived.Test.YtphhdkffnboboaaPtl
import Derived.Test.YtphhdkffnboboaaPta
import Derived.Deep.RegionHeld3
import Derived.Deep.RegionLaw
import Derived.Deep.AppendLies
namespace Go.Proofs.Ytphhdkffnboboaa
open Go.RowKit Go.Shelf
open Go.Lib Go.Great Go.Maps

/-- What the document's answer tells of a number. -/
def hitE (r : Int) (e : En) : Bool := hasR e.xs r && decide (0 ≤ r) && decide (r ≤ 1114111)
def getE (o : Int) (es : List En) (r : Int) : Int := es.foldl (fun v e => if hitE r e then e.c else v) o
theorem getE_snoc (o : Int) (es : List En) (r : Int) (k : Nat) (e : En) (h : es[k]? = some e) : getE o (es.take (k + 1)) r = if hitE r e then e.c else getE o (es.take k) r := by
  rw [List.take_add_one, h]
  simp [getE]

set_option maxHeartbeats 4000000 in
set_option maxRecDepth 100000 in
theorem rget_any (o : Int) (A : Option Addr) (cap : Nat) (es : List En) (r : Int) (w : World) (h : ES w w.heap.size A cap es) (r0 : -2147483648 ≤ r) (r1 : r ≤ 2147483647) :
    Calls Try.prog 19 #[.int .i64 o, .slice A es.length cap, .int .i32 r] w fun e w' => e = .returned (.int .i64 (getE o es r)) ∧ w' = w := by
  have H := Lib.hid h
  have hm : es.length ≤ maxLen := by have := h.1; have := h.2.1; omega
  unfold maxLen at hm
  obtain ⟨n, hn⟩ : ∃ n, es.length = n := ⟨_, rfl⟩
  have HN := Lib.hid hn
  obtain ⟨R, hR⟩ : ∃ R, R = getE o es r := ⟨_, rfl⟩
  have HR := Lib.hid hR
  rw [← hR, hn]
  rw [hn] at hm
  clear h hn hR
  go_enter Try.func19, Try.ntmps19
  go_wp2_with fail
  go_loopw [7, 8] (fun v i wr => ∃ k : Nat, i = .int .i64 (k : Int) ∧ k ≤ n ∧ wr = w ∧ v = .int .i64 (getE o (es.take k) r)) (fun _ i _ => n - (RowKit.intOf i).toNat)
  case atStart => exact ⟨0, rfl, Nat.zero_le _, rfl, rfl⟩
  case round =>
    obtain ⟨k, rfl, hk, rfl, rfl⟩ := hrel
    by_cases hlt : k < n
    · obtain ⟨x, hx⟩ : ∃ x, es[k]? = some x := ⟨es[k]'(by rw [HN.out]; exact hlt), List.getElem?_eq_getElem _⟩
      obtain ⟨b, o', rfl, hbl, hE⟩ := H.out.2.2.2 (by intro e; rw [e] at hx; simp at hx)
      obtain ⟨q1, q2⟩ := hE k x hx
      have HX := Lib.hid (getE_snoc o es r k x hx)
      have C := in_any x.A x.cap x.xs r r0 r1 wr (H.out.2.2.1 x (List.mem_of_getElem? hx))
      have i1 : (k : Int) < (n : Int) := by omega
      unfold hitE at HX
      obtain ⟨A1, cap1, xs1, c1⟩ := x
      simp only at q1 q2 C HX
      generalize hasR xs1 r = q at *
      generalize xs1.length = n1 at *
      generalize getE o (es.take k) r = v0 at *
      have C := Lib.hid C
      clear hE hx
      cases q with
      | false =>
        simp only [Bool.false_and, Bool.false_eq_true, if_false] at HX
        go_wp2_with fail
        refine C.out.mono ?_
        rintro e w1 ⟨rfl, rfl⟩
        go_wp2_with fail
        go_roundw
        case rel => exact ⟨k + 1, by go_num, by omega, by trivial, by rw [HX.out]⟩
        case measure => simp [RowKit.intOf]; omega
      | true =>
        by_cases c0 : 0 ≤ r
        · by_cases c2 : r ≤ 1114111
          · simp only [c0, c2, decide_true, Bool.and_self, if_true] at HX
            go_wp2_with fail
            refine C.out.mono ?_
            rintro e w1 ⟨rfl, rfl⟩
            go_wp2_with fail
            go_roundw
            case rel => exact ⟨k + 1, by go_num, by omega, by trivial, by rw [HX.out]⟩
            case measure => simp [RowKit.intOf]; omega
          · have d2 : decide (r ≤ 1114111) = false := by simpa using c2
            simp only [Bool.true_and, c0, d2, decide_true, Bool.and_false, Bool.false_eq_true, if_false] at HX
            go_wp2_with fail
            refine C.out.mono ?_
            rintro e w1 ⟨rfl, rfl⟩
            go_wp2_with fail
            go_roundw
            case rel => exact ⟨k + 1, by go_num, by omega, by trivial, by rw [HX.out]⟩
            case measure => simp [RowKit.intOf]; omega
        · have d0 : decide (0 ≤ r) = false := by simpa using c0
          simp only [Bool.true_and, d0, Bool.false_and, Bool.false_eq_true, if_false] at HX
          go_wp2_with fail
          refine C.out.mono ?_
          rintro e w1 ⟨rfl, rfl⟩
          go_wp2_with fail
          go_roundw
          case rel => exact ⟨k + 1, by go_num, by omega, by trivial, by rw [HX.out]⟩
          case measure => simp [RowKit.intOf]; omega
    · have e : getE o (es.take k) r = R := by rw [HR.out, List.take_of_length_le (by rw [HN.out]; omega)]
      rw [e]
      have i1 : ¬ (k : Int) < (n : Int) := by omega
      have d1 : decide ((k : Int) < (n : Int)) = false := by simp; omega
      clear e
      go_wp2_with fail
      go_ret
      exact ⟨rfl, rfl⟩

/-- May entries, and the other class, be? -/
def mayE (o : Int) (es : List En) : Bool := cls o && es.all (fun e => right e.xs && cls e.c)
theorem mayE_snoc (o : Int) (es : List En) (k : Nat) (e : En) (h : es[k]? = some e) : mayE o (es.take (k + 1)) = (mayE o (es.take k) && (right e.xs && cls e.c)) := by
  unfold mayE
  rw [List.take_add_one, h, List.all_append]
  simp [Bool.and_assoc]
theorem mayE_wrong (o : Int) (es : List En) : mayE o es = (cls o && !es.any wrongE) := by
  unfold mayE
  congr 1
  induction es with
  | nil => rfl
  | cons x xs ih => rw [List.all_cons, List.any_cons, ih]; unfold wrongE; cases right x.xs <;> cases cls x.c <;> cases xs.any wrongE <;> rfl

set_option maxHeartbeats 8000000 in
set_option maxRecDepth 100000 in
theorem lawmay_any (o : Int) (A : Option Addr) (cap : Nat) (es : List En) (w : World) (h : ES w w.heap.size A cap es) :
    Calls Try.prog 17 #[.int .i64 o, .slice A es.length cap] w fun e w' => e = .returned (.bool (mayE o es)) ∧ Below w.heap.size w w' := by
  have H := Lib.hid h
  have hm : es.length ≤ maxLen := by have := h.1; have := h.2.1; omega
  unfold maxLen at hm
  obtain ⟨n, hn⟩ : ∃ n, es.length = n := ⟨_, rfl⟩
  have HN := Lib.hid hn
  obtain ⟨R, hR⟩ : ∃ R, R = mayE o es := ⟨_, rfl⟩
  have HR := Lib.hid hR
  rw [← hR, hn]
  rw [hn] at hm
  clear h hn hR
  obtain ⟨q0, hq0⟩ : ∃ q0, cls o = q0 := ⟨_, rfl⟩
  have HQ0 := Lib.hid hq0
  clear hq0
  have start : ∀ (P : Prop), (q0 = (decide (0 ≤ o) && decide (o ≤ 255)) → P) → P := fun P f => f (by rw [← HQ0.out]; rfl)
  have H0 : (0 ≤ o ∧ o ≤ 255 ∧ q0 = true) ∨ (decide (0 ≤ o) = false ∧ q0 = false) ∨ (0 ≤ o ∧ decide (o ≤ 255) = false ∧ q0 = false) := by
    have e : q0 = (decide (0 ≤ o) && decide (o ≤ 255)) := by rw [← HQ0.out]; rfl
    by_cases c1 : 0 ≤ o
    · by_cases c2 : o ≤ 255
      · exact .inl ⟨c1, c2, by rw [e]; simp [c1, c2]⟩
      · exact .inr (.inr ⟨c1, by simpa using c2, by rw [e]; simp [c2]⟩)
    · exact .inr (.inl ⟨by simpa using c1, by rw [e]; simp [c1]⟩)
  clear start
  rcases H0 with ⟨a1, a2, rfl⟩ | ⟨a1, rfl⟩ | ⟨a1, a2, rfl⟩
  · go_enter Try.func17, Try.ntmps17
    go_wp2_with fail
    go_loopw [5, 6] (fun v i wr => ∃ k : Nat, i = .int .i64 (k : Int) ∧ k ≤ n ∧ Below w.heap.size w wr ∧ v = .bool (mayE o (es.take k))) (fun _ i _ => n - (RowKit.intOf i).toNat)
    case atStart => exact ⟨0, rfl, Nat.zero_le _, Below.refl _ _, by unfold mayE; rw [HQ0.out]; rfl⟩
    case round =>
      obtain ⟨k, rfl, hk, hb, rfl⟩ := hrel
      by_cases hlt : k < n
      · obtain ⟨x, hx⟩ : ∃ x, es[k]? = some x := ⟨es[k]'(by rw [HN.out]; exact hlt), List.getElem?_eq_getElem _⟩
        obtain ⟨b, o', rfl, hbl, hE⟩ := H.out.2.2.2 (by intro e; rw [e] at hx; simp at hx)
        obtain ⟨q1, q2⟩ := hE k x hx
        have p1 := (hb.cell (p := ⟨b, o' + k * 2, none⟩) hbl).trans q1
        have p2 := (hb.cell (p := ⟨b, o' + k * 2 + 1, none⟩) hbl).trans q2
        have HX := Lib.hid (mayE_snoc o es k x hx)
        have C := rright_any x.A x.cap x.xs wr (((H.out.2.2.1 x (List.mem_of_getElem? hx)).below hb).mono hb.size)
        have i1 : (k : Int) < (n : Int) := by omega
        unfold cls at HX
        obtain ⟨A1, cap1, xs1, c1⟩ := x
        simp only at q1 q2 p1 p2 C HX
        generalize right xs1 = q at *
        generalize xs1.length = n1 at *
        generalize mayE o (es.take k) = v0 at *
        have C := Lib.hid C
        have HB := Lib.hid hb
        have HE := Lib.hid hE
        have HBL := Lib.hid hbl
        clear hE hx q1 q2 hb
        cases v0 with
        | false =>
          simp only [Bool.false_and] at HX
          have hbz := HB.out
          go_wp2_with fail
          go_roundw
          case rel => exact ⟨k + 1, by go_num, by omega, hbz, by rw [HX.out]⟩
          case measure => simp [RowKit.intOf]; omega
        | true =>
          cases q with
          | false =>
            simp only [Bool.false_and, Bool.and_false] at HX
            go_wp2_with fail
            refine C.out.mono ?_
            rintro e w2 ⟨rfl, hb2⟩
            have hbz := HB.out.trans (hb2.mono HB.out.size)
            go_wp2_with fail
            go_roundw
            case rel => exact ⟨k + 1, by go_num, by omega, hbz, by rw [HX.out]⟩
            case measure => simp [RowKit.intOf]; omega
          | true =>
            go_wp2_with fail
            refine C.out.mono ?_
            rintro e w2 ⟨rfl, hb2⟩
            have hbz := HB.out.trans (hb2.mono HB.out.size)
            have hsz := HB.out.size
            have p3 := (hb2.cell (p := ⟨b, o' + k * 2 + 1, none⟩) (by show b < wr.heap.size; have := HBL.out; omega)).trans p2
            by_cases d1 : 0 ≤ c1
            · by_cases d2 : c1 ≤ 255
              · simp only [d1, d2, decide_true, Bool.and_self] at HX
                go_wp2_with fail
                go_roundw
                case rel => exact ⟨k + 1, by go_num, by omega, hbz, by rw [HX.out]⟩
                case measure => simp [RowKit.intOf]; omega
              · have d2' : decide (c1 ≤ 255) = false := by simpa using d2
                simp only [d2', Bool.and_false] at HX
                go_wp2_with fail
                go_roundw
                case rel => exact ⟨k + 1, by go_num, by omega, hbz, by rw [HX.out]⟩
                case measure => simp [RowKit.intOf]; omega
            · have d1' : decide (0 ≤ c1) = false := by simpa using d1
              simp only [d1', Bool.false_and, Bool.and_false] at HX
              go_wp2_with fail
              go_roundw
              case rel => exact ⟨k + 1, by go_num, by omega, hbz, by rw [HX.out]⟩
              case measure => simp [RowKit.intOf]; omega
      · have e : mayE o (es.take k) = R := by rw [HR.out, List.take_of_length_le (by rw [HN.out]; omega)]
        rw [e]
        have i1 : ¬ (k : Int) < (n : Int) := by omega
        have d1 : decide ((k : Int) < (n : Int)) = false := by simp; omega
        clear e
        go_wp2_with fail
        go_ret
        exact ⟨rfl, hb⟩
  · go_enter Try.func17, Try.ntmps17
    go_wp2_with fail
    go_loopw [5, 6] (fun v i wr => ∃ k : Nat, i = .int .i64 (k : Int) ∧ k ≤ n ∧ Below w.heap.size w wr ∧ v = .bool (mayE o (es.take k))) (fun _ i _ => n - (RowKit.intOf i).toNat)
    case atStart => exact ⟨0, rfl, Nat.zero_le _, Below.refl _ _, by unfold mayE; rw [HQ0.out]; rfl⟩
    case round =>
      obtain ⟨k, rfl, hk, hb, rfl⟩ := hrel
      by_cases hlt : k < n
      · obtain ⟨x, hx⟩ : ∃ x, es[k]? = some x := ⟨es[k]'(by rw [HN.out]; exact hlt), List.getElem?_eq_getElem _⟩
        obtain ⟨b, o', rfl, hbl, hE⟩ := H.out.2.2.2 (by intro e; rw [e] at hx; simp at hx)
        obtain ⟨q1, q2⟩ := hE k x hx
        have p1 := (hb.cell (p := ⟨b, o' + k * 2, none⟩) hbl).trans q1
        have p2 := (hb.cell (p := ⟨b, o' + k * 2 + 1, none⟩) hbl).trans q2
        have HX := Lib.hid (mayE_snoc o es k x hx)
        have C := rright_any x.A x.cap x.xs wr (((H.out.2.2.1 x (List.mem_of_getElem? hx)).below hb).mono hb.size)
        have i1 : (k : Int) < (n : Int) := by omega
        unfold cls at HX
        obtain ⟨A1, cap1, xs1, c1⟩ := x
        simp only at q1 q2 p1 p2 C HX
        generalize right xs1 = q at *
        generalize xs1.length = n1 at *
        generalize mayE o (es.take k) = v0 at *
        have C := Lib.hid C
        have HB := Lib.hid hb
        have HE := Lib.hid hE
        have HBL := Lib.hid hbl
        clear hE hx q1 q2 hb
        cases v0 with
        | false =>
          simp only [Bool.false_and] at HX
          have hbz := HB.out
          go_wp2_with fail
          go_roundw
          case rel => exact ⟨k + 1, by go_num, by omega, hbz, by rw [HX.out]⟩
          case measure => simp [RowKit.intOf]; omega
        | true =>
          cases q with
          | false =>
            simp only [Bool.false_and, Bool.and_false] at HX
            go_wp2_with fail
            refine C.out.mono ?_
            rintro e w2 ⟨rfl, hb2⟩
            have hbz := HB.out.trans (hb2.mono HB.out.size)
            go_wp2_with fail
            go_roundw
            case rel => exact ⟨k + 1, by go_num, by omega, hbz, by rw [HX.out]⟩
            case measure => simp [RowKit.intOf]; omega
          | true =>
            go_wp2_with fail
            refine C.out.mono ?_
            rintro e w2 ⟨rfl, hb2⟩
            have hbz := HB.out.trans (hb2.mono HB.out.size)
            have hsz := HB.out.size
            have p3 := (hb2.cell (p := ⟨b, o' + k * 2 + 1, none⟩) (by show b < wr.heap.size; have := HBL.out; omega)).trans p2
            by_cases d1 : 0 ≤ c1
            · by_cases d2 : c1 ≤ 255
              · simp only [d1, d2, decide_true, Bool.and_self] at HX
                go_wp2_with fail
                go_roundw
                case rel => exact ⟨k + 1, by go_num, by omega, hbz, by rw [HX.out]⟩
                case measure => simp [RowKit.intOf]; omega
              · have d2' : decide (c1 ≤ 255) = false := by simpa using d2
                simp only [d2', Bool.and_false] at HX
                go_wp2_with fail
                go_roundw
                case rel => exact ⟨k + 1, by go_num, by omega, hbz, by rw [HX.out]⟩
                case measure => simp [RowKit.intOf]; omega
            · have d1' : decide (0 ≤ c1) = false := by simpa using d1
              simp only [d1', Bool.false_and, Bool.and_false] at HX
              go_wp2_with fail
              go_roundw
              case rel => exact ⟨k + 1, by go_num, by omega, hbz, by rw [HX.out]⟩
              case measure => simp [RowKit.intOf]; omega
      · have e : mayE o (es.take k) = R := by rw [HR.out, List.take_of_length_le (by rw [HN.out]; omega)]
        rw [e]
        have i1 : ¬ (k : Int) < (n : Int) := by omega
        have d1 : decide ((k : Int) < (n : Int)) = false := by simp; omega
        clear e
        go_wp2_with fail
        go_ret
        exact ⟨rfl, hb⟩
  · go_enter Try.func17, Try.ntmps17
    go_wp2_with fail
    go_loopw [5, 6] (fun v i wr => ∃ k : Nat, i = .int .i64 (k : Int) ∧ k ≤ n ∧ Below w.heap.size w wr ∧ v = .bool (mayE o (es.take k))) (fun _ i _ => n - (RowKit.intOf i).toNat)
    case atStart => exact ⟨0, rfl, Nat.zero_le _, Below.refl _ _, by unfold mayE; rw [HQ0.out]; rfl⟩
    case round =>
      obtain ⟨k, rfl, hk, hb, rfl⟩ := hrel
      by_cases hlt : k < n
      · obtain ⟨x, hx⟩ : ∃ x, es[k]? = some x := ⟨es[k]'(by rw [HN.out]; exact hlt), List.getElem?_eq_getElem _⟩
        obtain ⟨b, o', rfl, hbl, hE⟩ := H.out.2.2.2 (by intro e; rw [e] at hx; simp at hx)
        obtain ⟨q1, q2⟩ := hE k x hx
        have p1 := (hb.cell (p := ⟨b, o' + k * 2, none⟩) hbl).trans q1
        have p2 := (hb.cell (p := ⟨b, o' + k * 2 + 1, none⟩) hbl).trans q2
        have HX := Lib.hid (mayE_snoc o es k x hx)
        have C := rright_any x.A x.cap x.xs wr (((H.out.2.2.1 x (List.mem_of_getElem? hx)).below hb).mono hb.size)
        have i1 : (k : Int) < (n : Int) := by omega
        unfold cls at HX
        obtain ⟨A1, cap1, xs1, c1⟩ := x
        simp only at q1 q2 p1 p2 C HX
        generalize right xs1 = q at *
        generalize xs1.length = n1 at *
        generalize mayE o (es.take k) = v0 at *
        have C := Lib.hid C
        have HB := Lib.hid hb
        have HE := Lib.hid hE
        have HBL := Lib.hid hbl
        clear hE hx q1 q2 hb
        cases v0 with
        | false =>
          simp only [Bool.false_and] at HX
          have hbz := HB.out
          go_wp2_with fail
          go_roundw
          case rel => exact ⟨k + 1, by go_num, by omega, hbz, by rw [HX.out]⟩
          case measure => simp [RowKit.intOf]; omega
        | true =>
          cases q with
          | false =>
            simp only [Bool.false_and, Bool.and_false] at HX
            go_wp2_with fail
            refine C.out.mono ?_
            rintro e w2 ⟨rfl, hb2⟩
            have hbz := HB.out.trans (hb2.mono HB.out.size)
            go_wp2_with fail
            go_roundw
            case rel => exact ⟨k + 1, by go_num, by omega, hbz, by rw [HX.out]⟩
            case measure => simp [RowKit.intOf]; omega
          | true =>
            go_wp2_with fail
            refine C.out.mono ?_
            rintro e w2 ⟨rfl, hb2⟩
            have hbz := HB.out.trans (hb2.mono HB.out.size)
            have hsz := HB.out.size
            have p3 := (hb2.cell (p := ⟨b, o' + k * 2 + 1, none⟩) (by show b < wr.heap.size; have := HBL.out; omega)).trans p2
            by_cases d1 : 0 ≤ c1
            · by_cases d2 : c1 ≤ 255
              · simp only [d1, d2, decide_true, Bool.and_self] at HX
                go_wp2_with fail
                go_roundw
                case rel => exact ⟨k + 1, by go_num, by omega, hbz, by rw [HX.out]⟩
                case measure => simp [RowKit.intOf]; omega
              · have d2' : decide (c1 ≤ 255) = false := by simpa using d2
                simp only [d2', Bool.and_false] at HX
                go_wp2_with fail
                go_roundw
                case rel => exact ⟨k + 1, by go_num, by omega, hbz, by rw [HX.out]⟩
                case measure => simp [RowKit.intOf]; omega
            · have d1' : decide (0 ≤ c1) = false := by simpa using d1
              simp only [d1', Bool.false_and, Bool.and_false] at HX
              go_wp2_with fail
              go_roundw
              case rel => exact ⟨k + 1, by go_num, by omega, hbz, by rw [HX.out]⟩
              case measure => simp [RowKit.intOf]; omega
      · have e : mayE o (es.take k) = R := by rw [HR.out, List.take_of_length_le (by rw [HN.out]; omega)]
        rw [e]
        have i1 : ¬ (k : Int) < (n : Int) := by omega
        have d1 : decide ((k : Int) < (n : Int)) = false := by simp; omega
        clear e
        go_wp2_with fail
        go_ret
        exact ⟨rfl, hb⟩
end Go.Proofs.Ytphhdkffnboboaa

namespace Go.Proofs.Ytphhdkffnboboaa
open Go.RowKit Go.Shelf
open Go.Lib Go.Great Go.Maps

/-- What is known of entries that were made, but for where they lie. -/
def same2 (l l' : List En) : Prop := l.map (fun e => (e.xs, e.c)) = l'.map (fun e => (e.xs, e.c))

theorem ES_own {w : World} {base n : Nat} {v : Value} {es : List En} (h : w.ownsRow base 72 2 v n (es.flatMap cellE)) (hl : es.length = n) (hR : ∀ e ∈ es, RS w w.heap.size e.A e.cap e.xs) :
    ∃ A cap, v = .slice A n cap ∧ ES w w.heap.size A cap es ∧ Fw A cap := by
  rcases h.2 with ⟨h1, h2⟩ | ⟨g, cp, cur, h1, h2, h3, h4, h5, h6, h7⟩
  · refine ⟨none, 0, by rw [h1, h2], ⟨by omega, Nat.zero_le _, hR, fun hn => absurd (List.length_eq_zero_iff.1 (by omega)) hn⟩, fun _ => rfl⟩
  · subst h1
    refine ⟨_, cp, rfl, ⟨by omega, h5, hR, fun _ => ⟨g, 0, rfl, (Array.getElem?_eq_some_iff.1 h3).1, fun i e he => ?_⟩⟩, fun h => by cases h⟩
    obtain ⟨c1, c2⟩ := flat2_get es i e he
    have hi := (List.getElem?_eq_some_iff.1 he).1
    rw [Nat.zero_add]
    have b1 : i * 2 < n * 2 := by omega
    have b2 : i * 2 + 1 < n * 2 := by omega
    rw [h.cellAt _ b1, h.cellAt _ b2]
    exact ⟨c1, c2⟩
theorem RS_grown {w w' : World} {X : Nat} {A : Option Addr} {cap : Nat} {xs : List Rng} {row : Option Nat} (h : RS w X A cap xs) (hX : X ≤ w.heap.size) (hg : w.grownBy w' row) (hne : ∀ p, A = some p → row ≠ some p.block) : RS w' w'.heap.size A cap xs :=
  ⟨h.1, h.2.1, h.2.2.1, fun hn => by
    obtain ⟨b, o, rfl, hlt, hR⟩ := h.2.2.2 hn
    have hs := hg.size
    have hn' := hne _ rfl
    refine ⟨b, o, rfl, by omega, fun i z hz => ?_⟩
    obtain ⟨h1, h2⟩ := hR i z hz
    exact ⟨(hg.cell_far ⟨b, o + i * 2, none⟩ (by show b < _; omega) (fun e => hn' e.symm)).trans h1, (hg.cell_far ⟨b, o + i * 2 + 1, none⟩ (by show b < _; omega) (fun e => hn' e.symm)).trans h2⟩⟩

set_option maxHeartbeats 4000000 in
set_option maxRecDepth 100000 in
theorem lawto_any (A : Option Addr) (cap : Nat) (es : List En) (w : World) (h : ES w w.heap.size A cap es) (hl : es.length ≤ 12) (hx : ∀ e ∈ es, e.xs.length ≤ 12) :
    Calls Try.prog 16 #[.slice A es.length cap] w fun e w' => ∃ A' cap' es', e = .returned (.slice A' es.length cap') ∧ es'.length = es.length ∧ same2 es' es ∧ ES w' w'.heap.size A' cap' es' ∧ Fw A' cap' ∧ Below w.heap.size w w' := by
  have H := Lib.hid h
  obtain ⟨n, hn⟩ : ∃ n, es.length = n := ⟨_, rfl⟩
  have HN := Lib.hid hn
  rw [hn] at hl ⊢
  clear h hn
  go_enter Try.func16, Try.ntmps16
  go_wp2_with fail
  go_loopw [3, 4] (fun v i wr => ∃ (k : Nat) (l : List En), i = .int .i64 (k : Int) ∧ k ≤ n ∧ wr.ownsRow w.heap.size 72 2 v k (l.flatMap cellE) ∧ same2 l (es.take k) ∧ (∀ e ∈ l, RS wr wr.heap.size e.A e.cap e.xs ∧ ∀ p, e.A = some p → p.block < wr.heap.size ∧ v.ownBlock ≠ some p.block) ∧ Below w.heap.size w wr) (fun _ i _ => n - (RowKit.intOf i).toNat)
  case atStart => exact ⟨0, [], rfl, Nat.zero_le _, World.ownsRow_nil _ _ _ _, rfl, by simp, Below.refl _ _⟩
  case round =>
    obtain ⟨k, l, rfl, hk, hown, hs, hR, hb⟩ := hrel
    by_cases hlt : k < n
    · obtain ⟨x, hx'⟩ : ∃ x, es[k]? = some x := ⟨es[k]'(by rw [HN.out]; exact hlt), List.getElem?_eq_getElem _⟩
      obtain ⟨b, o', rfl, hbl, hE⟩ := H.out.2.2.2 (by intro e; rw [e] at hx'; simp at hx')
      obtain ⟨q1, q2⟩ := hE k x hx'
      have i1 : (k : Int) < (n : Int) := by omega
      have HH := Lib.hid (And.intro hown (And.intro hs (And.intro hR hb)))
      clear hown hs hR hb hE
      go_wp2_with fail
      have HQ := Lib.hid (show Below w.heap.size w wr.drew from HH.out.2.2.2.drew)
      have HBL := Lib.hid hbl
      have C := Lib.hid (to_any x.A x.cap x.xs wr.drew (((H.out.2.2.1 x (List.mem_of_getElem? hx')).below HQ.out).mono HQ.out.size) (by have := hx x (List.mem_of_getElem? hx'); omega))
      refine wp_region_noPanic ?_
      refine wp_region_held_drew (S := fun W => Below w.heap.size w W) (by kernel_rfl) HQ.out (fun hH => ?_)
      refine wpAnyH_take (i := 0) (oi := { dst := some 11, op := Op.move (Operand.tmp 3), type := 30, pos := "law.go:23", after := #[], guard := none }) (v := ?_) rfl (by kernel_rfl) (by kernel_rfl) (by kernel_rfl) (fun _ _ _ h => h) (Or.inl ⟨by rfl, ?_⟩) (by exact hH) ?_
      rotate_left
      · intro W hSw
        go_simp
        try with_reducible rfl
      try simp only [Act.put, List.setIfInBounds_toArray, List.set_cons_zero, List.set_cons_succ]
      refine wpAnyH_take (i := 1) (oi := { dst := some 12, op := Op.move (Operand.tmp 0), type := 22, pos := "law.go:23", after := #[], guard := none }) (v := ?_) rfl (by kernel_rfl) (by kernel_rfl) (by kernel_rfl) (fun _ _ _ h => h) (Or.inl ⟨by rfl, ?_⟩) (by exact hH) ?_
      rotate_left
      · intro W hSw
        go_simp
        try with_reducible rfl
      try simp only [Act.put, List.setIfInBounds_toArray, List.set_cons_zero, List.set_cons_succ]
      refine wpAnyH_take (i := 2) (oi := { dst := some 13, op := Op.move (Operand.tmp 4), type := 3, pos := "law.go:23", after := #[], guard := none }) (v := ?_) rfl (by kernel_rfl) (by kernel_rfl) (by kernel_rfl) (fun _ _ _ h => h) (Or.inl ⟨by rfl, ?_⟩) (by exact hH) ?_
      rotate_left
      · intro W hSw
        go_simp
        try with_reducible rfl
      try simp only [Act.put, List.setIfInBounds_toArray, List.set_cons_zero, List.set_cons_succ]
      refine wpAnyH_take (i := 3) (oi := { dst := some 14, op := Op.indexAddr 22 (Operand.tmp 12) (Operand.tmp 13), type := 0, pos := "law.go:23", after := #[{ on := 1, ground := Ground.data }, { on := 2, ground := Ground.data }], guard := none }) (v := ?_) rfl (by kernel_rfl) (by kernel_rfl) (by kernel_rfl) (fun _ _ _ h => h) (Or.inl ⟨by rfl, ?_⟩) (by exact hH) ?_
      rotate_left
      · intro W hSw
        go_simp
        try with_reducible rfl
      try simp only [Act.put, List.setIfInBounds_toArray, List.set_cons_zero, List.set_cons_succ]
      refine wpAnyH_take (i := 4) (oi := { dst := some 15, op := Op.fieldAddr 38 (Operand.tmp 14) 0, type := 0, pos := "law.go:23", after := #[{ on := 3, ground := Ground.data }], guard := none }) (v := ?_) rfl (by kernel_rfl) (by kernel_rfl) (by kernel_rfl) (fun _ _ _ h => h) (Or.inl ⟨by rfl, ?_⟩) (by exact hH) ?_
      rotate_left
      · intro W hSw
        go_simp
        try with_reducible rfl
      try simp only [Act.put, List.setIfInBounds_toArray, List.set_cons_zero, List.set_cons_succ]
      refine wpAnyH_take (i := 5) (oi := { dst := some 16, op := Op.load 36 (Operand.tmp 15), type := 36, pos := "law.go:23", after := #[{ on := 4, ground := Ground.data }], guard := none }) (v := ?_) rfl (by kernel_rfl) (by kernel_rfl) (by kernel_rfl) (fun _ _ _ h => h) (Or.inl ⟨by rfl, ?_⟩) (by exact hH) ?_
      rotate_left
      · intro W hSw
        have p := (hSw.cell (p := ⟨b, o' + k * 2, none⟩) hbl).trans q1
        go_simp
        try with_reducible rfl
      try simp only [Act.put, List.setIfInBounds_toArray, List.set_cons_zero, List.set_cons_succ]
      refine wpAnyH_take (i := 7) (oi := { dst := some 18, op := Op.move (Operand.tmp 0), type := 22, pos := "law.go:23", after := #[], guard := none }) (v := ?_) rfl (by kernel_rfl) (by kernel_rfl) (by kernel_rfl) (fun _ _ _ h => h) (Or.inl ⟨by rfl, ?_⟩) (by exact hH) ?_
      rotate_left
      · intro W hSw
        go_simp
        try with_reducible rfl
      try simp only [Act.put, List.setIfInBounds_toArray, List.set_cons_zero, List.set_cons_succ]
      refine wpAnyH_take (i := 8) (oi := { dst := some 19, op := Op.move (Operand.tmp 4), type := 3, pos := "law.go:23", after := #[], guard := none }) (v := ?_) rfl (by kernel_rfl) (by kernel_rfl) (by kernel_rfl) (fun _ _ _ h => h) (Or.inl ⟨by rfl, ?_⟩) (by exact hH) ?_
      rotate_left
      · intro W hSw
        go_simp
        try with_reducible rfl
      try simp only [Act.put, List.setIfInBounds_toArray, List.set_cons_zero, List.set_cons_succ]
      refine wpAnyH_take (i := 9) (oi := { dst := some 20, op := Op.indexAddr 22 (Operand.tmp 18) (Operand.tmp 19), type := 0, pos := "law.go:23", after := #[{ on := 7, ground := Ground.data }, { on := 8, ground := Ground.data }], guard := none }) (v := ?_) rfl (by kernel_rfl) (by kernel_rfl) (by kernel_rfl) (fun _ _ _ h => h) (Or.inl ⟨by rfl, ?_⟩) (by exact hH) ?_
      rotate_left
      · intro W hSw
        go_simp
        try with_reducible rfl
      try simp only [Act.put, List.setIfInBounds_toArray, List.set_cons_zero, List.set_cons_succ]
      refine wpAnyH_take (i := 10) (oi := { dst := some 21, op := Op.fieldAddr 38 (Operand.tmp 20) 1, type := 0, pos := "law.go:23", after := #[{ on := 9, ground := Ground.data }], guard := none }) (v := ?_) rfl (by kernel_rfl) (by kernel_rfl) (by kernel_rfl) (fun _ _ _ h => h) (Or.inl ⟨by rfl, ?_⟩) (by exact hH) ?_
      rotate_left
      · intro W hSw
        go_simp
        try with_reducible rfl
      try simp only [Act.put, List.setIfInBounds_toArray, List.set_cons_zero, List.set_cons_succ]
      refine wpAnyH_take (i := 11) (oi := { dst := some 22, op := Op.load 3 (Operand.tmp 21), type := 3, pos := "law.go:23", after := #[{ on := 10, ground := Ground.data }], guard := none }) (v := ?_) rfl (by kernel_rfl) (by kernel_rfl) (by kernel_rfl) (fun _ _ _ h => h) (Or.inl ⟨by rfl, ?_⟩) (by exact hH) ?_
      rotate_left
      · intro W hSw
        have p := (hSw.cell (p := ⟨b, o' + k * 2 + 1, none⟩) hbl).trans q2
        go_simp
        try with_reducible rfl
      try simp only [Act.put, List.setIfInBounds_toArray, List.set_cons_zero, List.set_cons_succ]
      refine wpAnyH_ready (rs := [6]) (by kernel_rfl) (by simp) ?_
      refine AllReadyH.cons (o := { dst := some 17, op := Op.call { callee := Callee.value (Operand.func 46), args := #[Operand.tmp 16], argTypes := #[36] }, type := 43, pos := "law.go:23", after := #[{ on := 5, ground := Ground.data }], guard := none }) rfl (fun K hK => ?_) AllReadyH.nil
      go_simp
      go_at_call 46
      refine C.out.mono ?_
      rintro e w5 ⟨v5, rfl, hown5, hb5⟩
      obtain ⟨A5, c5, rfl, hRS5⟩ := ownsRow_RS hown5 (H.out.2.2.1 x (List.mem_of_getElem? hx')).2.2.1
      have HB5 := Lib.hid (HQ.out.trans (hb5.mono HQ.out.size))
      have H5 := Lib.hid (And.intro hown5 (And.intro hb5 hRS5))
      clear hown5 hb5 hRS5
      go_wp2_with fail
      refine hK.out _ _ HB5.out (fun hH => ?_)
      clear hK K
      try simp only [Act.put, List.setIfInBounds_toArray, List.set_cons_zero, List.set_cons_succ]
      refine wpAnyH_take (i := 12) (oi := { dst := some 23, op := Op.build 72 #[(0, Operand.tmp 17), (1, Operand.tmp 22)], type := 72, pos := "law.go:23", after := #[{ on := 6, ground := Ground.data }, { on := 11, ground := Ground.data }], guard := none }) (v := ?_) rfl (by kernel_rfl) (by kernel_rfl) (by kernel_rfl) (fun _ _ _ h => h) (Or.inl ⟨by rfl, ?_⟩) (by exact hH) ?_
      rotate_left
      · intro W hSw
        go_simp
        try with_reducible rfl
      try simp only [Act.put, List.setIfInBounds_toArray, List.set_cons_zero, List.set_cons_succ]
      have HB6 := Lib.hid (HB5.out.alloc HB5.out.size (.cells #[.slice A5 x.xs.length c5, .int .i64 x.c] 72))
      have HO6 := Lib.hid ((ownsRow_below HH.out.1.drew H5.out.2.1).alloc (.cells #[.slice A5 x.xs.length c5, .int .i64 x.c] 72))
      have NB := Lib.hid (World.news_of_block (heap_alloc_new w5 (.cells #[.slice A5 x.xs.length c5, .int .i64 x.c] 72)))
      obtain ⟨i72, hi72, hzz⟩ := Option.map_eq_some_iff.1 Try.info72
      simp only [Prod.mk.injEq] at hzz
      have HI := Lib.hid (And.intro hi72 hzz)
      clear hi72 hzz
      refine wpAnyH_ready (rs := [13]) (by kernel_rfl) (by simp) ?_
      refine AllReadyH.cons (o := { dst := some 24, op := Op.buildSlice 30 1 #[(0, Operand.tmp 23)], type := 30, pos := "law.go:23", after := #[{ on := 12, ground := Ground.data }], guard := none }) rfl (fun K hK => ?_) AllReadyH.nil
      go_simp
      refine hK.out _ _ HB6.out (fun hH => ?_)
      clear hK K
      try simp only [Act.put, List.setIfInBounds_toArray, List.set_cons_zero, List.set_cons_succ]
      refine wpAnyH_ready (rs := [14]) (by kernel_rfl) (by simp) ?_
      refine AllReadyH.cons (o := { dst := some 25, op := Op.call { callee := Callee.builtin Builtin.append, args := #[Operand.tmp 11, Operand.tmp 24], argTypes := #[30, 30] }, type := 30, pos := "law.go:23", after := #[{ on := 0, ground := Ground.data }, { on := 13, ground := Ground.data }, { on := 6, ground := Ground.chain }], guard := none }) rfl (fun K hK => ?_) AllReadyH.nil
      refine step_append_lies _ rfl (.tmp 11) (.tmp 24) 30 rfl w.heap.size 72 i72 _ 2 32 Try.underlying30 HI.out.1 HI.out.2.1 HI.out.2.2.1 HI.out.2.2.2 rfl (by omega) u3 k (l.flatMap cellE) rfl HO6.out ⟨w5.heap.size, 0, none⟩ 1 1 [.slice A5 x.xs.length c5, .int .i64 x.c] rfl rfl NB.out (by simp [Value.oneCell']) (by omega) (by unfold maxLen; omega) (by omega) HB6.out.size (w5.heap.size + 1) (by simp) ?_
      intro g cap1 w7 hown7 hgrow7 hat7 hlt7
      have HB7 := Lib.hid (HB6.out.grown hgrow7 HB6.out.size (fun k e' => (own_block_lt HO6.out k e').1))
      have H7 := Lib.hid (And.intro hown7 (And.intro hgrow7 (And.intro hat7 hlt7)))
      clear hown7 hgrow7 hat7 hlt7
      refine hK.out _ _ HB7.out (fun hH => ?_)
      clear hK K
      try simp only [Act.put, List.setIfInBounds_toArray, List.set_cons_zero, List.set_cons_succ]
      refine wpAnyH_take (i := 15) (oi := { dst := some 3, op := Op.assign (Operand.tmp 25), type := 30, pos := "law.go:23", after := #[{ on := 14, ground := Ground.data }, { on := 14, ground := Ground.chain }, { on := 0, ground := Ground.phase }, { on := 1, ground := Ground.phase }, { on := 2, ground := Ground.phase }, { on := 3, ground := Ground.phase }, { on := 4, ground := Ground.phase }, { on := 5, ground := Ground.phase }, { on := 6, ground := Ground.phase }, { on := 7, ground := Ground.phase }, { on := 8, ground := Ground.phase }, { on := 9, ground := Ground.phase }, { on := 10, ground := Ground.phase }, { on := 11, ground := Ground.phase }, { on := 12, ground := Ground.phase }, { on := 13, ground := Ground.phase }, { on := 14, ground := Ground.phase }], guard := none }) (v := ?_) rfl (by kernel_rfl) (by kernel_rfl) (by kernel_rfl) (fun _ _ _ h => h) (Or.inl ⟨by rfl, ?_⟩) (by exact hH) ?_
      rotate_left
      · intro W hSw
        go_simp
        try with_reducible rfl
      try simp only [Act.put, List.setIfInBounds_toArray, List.set_cons_zero, List.set_cons_succ]
      refine wpAnyH_done (by kernel_rfl) ?_ _
      refine NoPanic.normal ?_
      have hend : ∃ (k_1 : Nat) (l : List En), Value.int .i64 ((k : Int) + 1) = .int .i64 (k_1 : Int) ∧ k_1 ≤ n ∧ w7.ownsRow w.heap.size 72 2 (.slice (some ⟨g, 0, none⟩) (k + 1) cap1) k_1 (l.flatMap cellE) ∧ same2 l (es.take k_1) ∧ (∀ e ∈ l, RS w7 w7.heap.size e.A e.cap e.xs ∧ ∀ p, e.A = some p → p.block < w7.heap.size ∧ Value.ownBlock (.slice (some ⟨g, 0, none⟩) (k + 1) cap1) ≠ some p.block) ∧ Below w.heap.size w w7 := by
        obtain ⟨hown7, hgrow7, hat7, hlt7⟩ := H7.out
        obtain ⟨hown, hs, hR, hb⟩ := HH.out
        obtain ⟨hown5, hb5, hRS5⟩ := H5.out
        have hs5 : wr.heap.size ≤ w5.heap.size := hb5.size
        have hs7 := hgrow7.size
        have hz6 : (w5.alloc (.cells #[.slice A5 x.xs.length c5, .int .i64 x.c] 72)).heap.size = w5.heap.size + 1 := by simp
        have hbn := below_new w5 (.cells #[.slice A5 x.xs.length c5, .int .i64 x.c] 72)
        refine ⟨k + 1, l ++ [⟨A5, c5, x.xs, x.c⟩], by simp, by omega, by rw [List.flatMap_append]; simpa [cellE] using hown7, ?_, ?_, HB7.out⟩
        · unfold same2 at hs ⊢
          rw [List.map_append, hs, List.take_add_one, hx', List.map_append]
          rfl
        · intro e he
          rcases List.mem_append.1 he with he | he
          · obtain ⟨r1, r2⟩ := hR e he
            have r5 : RS w5 wr.heap.size e.A e.cap e.xs := RS.below (w := wr.drew) r1 hb5
            refine ⟨RS_grown (r5.below (hbn.mono hs5)) (by omega) hgrow7 (fun p hp => (r2 p hp).2), fun p hp => ⟨by have := (r2 p hp).1; omega, ?_⟩⟩
            intro eg
            have eg : g = p.block := by simpa [Value.ownBlock] using eg
            rcases hat7 with h7 | h7
            · exact (r2 p hp).2 (by rw [h7, eg])
            · have := (r2 p hp).1; omega
          · simp only [List.mem_cons, List.not_mem_nil, or_false] at he
            subst he
            have hfresh : ∀ p, A5 = some p → wr.heap.size ≤ p.block ∧ p.block < w5.heap.size := fun p hp => hown5.lt p.block (by rw [hp]; rfl)
            refine ⟨RS_grown (hRS5.below hbn) (by omega) hgrow7 (fun p hp e' => ?_), fun p hp => ⟨by have := (hfresh p hp).2; omega, ?_⟩⟩
            · have := (own_block_lt hown _ e').2
              have := (hfresh p hp).1
              omega
            · intro eg
              have eg : g = p.block := by simpa [Value.ownBlock] using eg
              rcases hat7 with h7 | h7
              · have := (own_block_lt hown _ h7).2
                have := (hfresh p hp).1
                omega
              · have := (hfresh p hp).2; omega
      have HEND := Lib.hid hend
      clear hend
      go_wp2_with fail
      go_roundw
      case rel => exact HEND.out
      case measure => simp [RowKit.intOf]; omega
    · have hkn : k = n := by omega
      subst hkn
      have hlen : l.length = k := by
        have := congrArg List.length hs
        simp only [List.length_map, List.length_take, HN.out] at this
        omega
      obtain ⟨A', cap', rfl, hES, hFw⟩ := ES_own hown hlen (fun e he => (hR e he).1)
      have hs' : same2 l es := by rw [List.take_of_length_le (by rw [HN.out]; exact Nat.le_refl _)] at hs; exact hs
      have HK := Lib.hid (And.intro hlen (And.intro hs' (And.intro hES (And.intro hFw hb))))
      clear hown hs hR hb hlen hES hFw hs'
      have d1 : decide ((k : Int) < (k : Int)) = false := by simp
      go_wp2_with fail
      go_ret
      exact ⟨A', cap', l, rfl, HK.out.1, HK.out.2.1, HK.out.2.2.1, HK.out.2.2.2.1, HK.out.2.2.2.2⟩
end Go.Proofs.Ytphhdkffnboboaa

namespace Go.Proofs.Ytphhdkffnboboaa
open Go.RowKit Go.Shelf
open Go.Lib Go.Great Go.Maps

theorem ptK_succ {k : Nat} (h1 : 1 ≤ k) : ptK k = ptK (k - 1) ++ [(setP (k : Int), (k : Int))] := by
  obtain ⟨j, rfl⟩ : ∃ j, k = j + 1 := ⟨k - 1, by omega⟩
  rw [pt_snoc]
  rfl
theorem RS_grown2 {w w' : World} {X : Nat} {A : Option Addr} {cap : Nat} {xs : List Rng} {row : Option Nat} (h : RS w X A cap xs) (hX : X ≤ w.heap.size) (hg : w.grownBy w' row) (hne : xs ≠ [] → ∀ p, A = some p → row ≠ some p.block) : RS w' w'.heap.size A cap xs :=
  ⟨h.1, h.2.1, h.2.2.1, fun hn => (RS_grown h hX hg (hne hn)).2.2.2 hn⟩
set_option maxHeartbeats 4000000 in
set_option maxRecDepth 100000 in
theorem ptrie_any (w : World) : Calls Try.prog 36 #[] w fun e w' => ∃ T F, e = .returned (.pointer (some ⟨T, 0, none⟩)) ∧ Tr w' T 0 F ∧ U8 F ∧ (∀ i : Nat, i < 1114112 → F i = ((classR (i : Int) : Nat) : Int)) ∧ Below w.heap.size w w' := by
  have S := Lib.hid set_fr
  have N := Lib.hid new_any
  obtain ⟨i72, hi72, hzz⟩ := Option.map_eq_some_iff.1 Try.info72
  simp only [Prod.mk.injEq] at hzz
  have HI := Lib.hid (And.intro hi72 hzz)
  clear hi72 hzz
  go_enter Try.func36, Try.ntmps36
  go_wp2_with fail
  go_loopw [1, 2] (fun v i wr => ∃ (k : Nat) (l : List En), i = .int .i64 (k : Int) ∧ 1 ≤ k ∧ k ≤ 36 ∧ wr.ownsRow w.heap.size 72 2 v (k - 1) (l.flatMap cellE) ∧ l.map (fun e => (e.xs, e.c)) = ptK (k - 1) ∧ (∀ e ∈ l, RS wr wr.heap.size e.A e.cap e.xs ∧ e.xs.length ≤ 1001 ∧ right e.xs = true ∧ (e.xs ≠ [] → ∀ p, e.A = some p → p.block < wr.heap.size ∧ v.ownBlock ≠ some p.block)) ∧ Below w.heap.size w wr) (fun _ i _ => 36 - (RowKit.intOf i).toNat)
  case atStart => exact ⟨1, [], rfl, Nat.le_refl _, by omega, World.ownsRow_nil _ _ _ _, rfl, by simp, Below.refl _ _⟩
  case round =>
    obtain ⟨k, l, rfl, h1, hk, hown, hm, hR, hb⟩ := hrel
    have hlen : l.length = k - 1 := by have := congrArg List.length hm; simpa [ptK] using this
    by_cases hlt : k < 36
    · have i1 : (k : Int) < 36 := by omega
      have HH := Lib.hid (And.intro hown (And.intro hm (And.intro hR hb)))
      clear hown hm hR hb hlen
      go_wp2_with fail
      refine (S.out _ _).mono ?_
      rintro e w5 ⟨⟨A5, c5, rfl, hSW, hb5, hfr⟩, hr, hl2⟩
      have hRS : RS w5 w5.heap.size A5 c5 (setP (k : Int)) := hSW.1
      have HB5 := Lib.hid (HH.out.2.2.2.trans (hb5.mono HH.out.2.2.2.size))
      have H5 := Lib.hid (And.intro hfr (And.intro hb5 (And.intro hRS (And.intro hl2 hr))))
      have hks := Lib.hid (ptK_succ h1)
      generalize hxs : setP (k : Int) = xs at *
      have HB6 := Lib.hid (HB5.out.alloc HB5.out.size (.cells #[.slice A5 xs.length c5, .int .i64 (k : Int)] 72))
      have HO6 := Lib.hid ((ownsRow_below HH.out.1 H5.out.2.1).alloc (.cells #[.slice A5 xs.length c5, .int .i64 (k : Int)] 72))
      have NB := Lib.hid (World.news_of_block (heap_alloc_new w5 (.cells #[.slice A5 xs.length c5, .int .i64 (k : Int)] 72)))
      clear hSW hb5 hfr hr hl2 hRS hxs
      go_wp2_with (refine wpList_append_lies _ rfl (.tmp 9) (.tmp 14) 30 rfl w.heap.size 72 i72 _ 2 32 Try.underlying30 HI.out.1 HI.out.2.1 HI.out.2.2.1 HI.out.2.2.2 rfl (by omega) _ (k - 1) (l.flatMap cellE) rfl HO6.out ⟨w5.heap.size, 0, none⟩ 1 1 [.slice A5 xs.length c5, .int .i64 (k : Int)] rfl rfl NB.out (by simp [Value.oneCell']) (by omega) (by unfold maxLen; omega) (by omega) HB6.out.size (w5.heap.size + 1) (by simp) ?_)
      intro g cap1 w7 hown7 hgrow7 hat7 hlt7
      have HB7 := Lib.hid (HB6.out.grown hgrow7 HB6.out.size (fun k e' => (own_block_lt HO6.out k e').1))
      have hend : ∃ (k_1 : Nat) (l : List En), Value.int .i64 ((k : Int) + 1) = .int .i64 (k_1 : Int) ∧ 1 ≤ k_1 ∧ k_1 ≤ 36 ∧ w7.ownsRow w.heap.size 72 2 (.slice (some ⟨g, 0, none⟩) k cap1) (k_1 - 1) (l.flatMap cellE) ∧ l.map (fun e => (e.xs, e.c)) = ptK (k_1 - 1) ∧ (∀ e ∈ l, RS w7 w7.heap.size e.A e.cap e.xs ∧ e.xs.length ≤ 1001 ∧ right e.xs = true ∧ (e.xs ≠ [] → ∀ p, e.A = some p → p.block < w7.heap.size ∧ Value.ownBlock (.slice (some ⟨g, 0, none⟩) k cap1) ≠ some p.block)) ∧ Below w.heap.size w w7 := by
        obtain ⟨hown, hs, hR, hb⟩ := HH.out
        obtain ⟨hfr5, hb5, hRS5, hl5, hr5⟩ := H5.out
        have hs5 : wr.heap.size ≤ w5.heap.size := hb5.size
        have hs7 := hgrow7.size
        have hz6 : (w5.alloc (.cells #[.slice A5 xs.length c5, .int .i64 (k : Int)] 72)).heap.size = w5.heap.size + 1 := by simp
        have hbn := below_new w5 (.cells #[.slice A5 xs.length c5, .int .i64 (k : Int)] 72)
        refine ⟨k + 1, l ++ [⟨A5, c5, xs, (k : Int)⟩], by simp, by omega, by omega, by rw [List.flatMap_append, show k + 1 - 1 = k by omega]; simpa [cellE] using hown7, ?_, ?_, HB7.out⟩
        · rw [List.map_append, hs, show k + 1 - 1 = k by omega, hks.out]
          rfl
        · intro e he
          rcases List.mem_append.1 he with he | he
          · obtain ⟨r1, r0, rr, r2⟩ := hR e he
            have r5 : RS w5 wr.heap.size e.A e.cap e.xs := r1.below hb5
            refine ⟨RS_grown2 (r5.below (hbn.mono hs5)) (by omega) hgrow7 (fun hx p hp => (r2 hx p hp).2), r0, rr, fun hx p hp => ⟨by have := (r2 hx p hp).1; omega, ?_⟩⟩
            intro eg
            have eg : g = p.block := by simpa [Value.ownBlock] using eg
            rcases hat7 with h7 | h7
            · exact (r2 hx p hp).2 (by rw [h7, eg])
            · have := (r2 hx p hp).1; omega
          · simp only [List.mem_cons, List.not_mem_nil, or_false] at he
            subst he
            have hkey : xs ≠ [] → ∀ p, A5 = some p → wr.heap.size ≤ p.block ∧ p.block < w5.heap.size := fun hx p hp => by
              obtain ⟨b0, o0, hA5, hlt5, _⟩ := hRS5.2.2.2 hx
              have := hfr5 p hp
              rw [hA5] at hp
              injection hp with hp
              subst hp
              exact ⟨this, hlt5⟩
            refine ⟨RS_grown2 (hRS5.below hbn) (by omega) hgrow7 (fun hx p hp e' => ?_), hl5, hr5, fun hx p hp => ⟨by have := (hkey hx p hp).2; omega, ?_⟩⟩
            · have := (own_block_lt hown _ e').2
              have := (hkey hx p hp).1
              omega
            · intro eg
              have eg : g = p.block := by simpa [Value.ownBlock] using eg
              have := hkey hx p hp
              rcases hat7 with h7 | h7
              · have := (own_block_lt hown _ h7).2
                omega
              · omega
      have HEND := Lib.hid hend
      clear hend hgrow7 hat7 hlt7 hown7
      go_wp2_with fail
      go_roundw
      case rel => exact HEND.out
      case measure => simp [RowKit.intOf]; omega
    · have hkn : k = 36 := by omega
      subst hkn
      obtain ⟨A', cap', rfl, hES, hFw⟩ := ES_of_own hown hlen (fun e he => (hR e he).1)
      have hw : (cls 0 && !l.any wrongE) = true := by
        have he : l.any wrongE = false := by
          rw [List.any_eq_false]
          intro e he
          obtain ⟨j, hj, h1, h2⟩ := pt_mem hm he
          have hr := (hR e he).2.2.1
          have hc : cls e.c = true := (cls_iff _).2 (by omega)
          simp [wrongE, hr, hc]
        rw [he]
        rfl
      have hN := N.out 0 A' cap' l wr hES hFw (by omega) (fun e he => by have := (hR e he).2.1; omega)
      have hlen' : l.length = 35 := hlen
      rw [hlen'] at hN
      have NW := Lib.hid hN
      have HK := Lib.hid (And.intro hb (And.intro hm hw))
      clear hown hm hR hb hlen hES hFw hN hlen' hw
      have d1 : ¬ ((36 : Nat) : Int) < 36 := by omega
      go_wp2_with fail
      refine NW.out.mono ?_
      rintro e w4 ⟨hb4, hp⟩
      rw [if_pos HK.out.2.2] at hp
      obtain ⟨T1, F, rfl, hF, hFi, hT1⟩ := hp
      have HZ := Lib.hid (And.intro hT1 (And.intro hF (And.intro hFi (HK.out.1.trans (hb4.mono HK.out.1.size)))))
      clear hF hFi hT1 hb4
      go_wp2_with fail
      go_ret
      refine ⟨T1, F, rfl, HZ.out.1, HZ.out.2.1, fun i hi => ?_, HZ.out.2.2.2⟩
      rw [HZ.out.2.2.1 i hi]
      exact pt_fold HK.out.2.1 i hi (classR_lt _)
end Go.Proofs.Ytphhdkffnboboaa

