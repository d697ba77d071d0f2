/-
  The text of a right list is that of no other one.
  Contracts: virguleref02.hex, virguleref02.Print.
-/
import Derived.Test.YtphhdkffnboboaaGreatDoorHx3
import Derived.Test.YtphhdkffnboboaaGreatDoorMk
namespace Go.Proofs.YtphhdkffnboboaaGreatDoor

/-- A digit's value. -/
def digV (c : UInt8) : Nat := if c.toNat < 58 then c.toNat - 48 else c.toNat - 87
def hexV (l : List UInt8) : Nat := l.foldl (fun a c => 16 * a + digV c) 0
theorem hexC_val : ∀ d, d < 16 → digV (hexC d) = d ∧ hexC d ≠ 44 ∧ hexC d ≠ 45 ∧ hexC d ≠ 110 := by decide +kernel
theorem hexV_snoc (l : List UInt8) (c : UInt8) : hexV (l ++ [c]) = 16 * hexV l + digV c := by simp [hexV]
theorem hexV_hexD (n : Nat) : hexV (hexD n) = n := by
  induction n using Nat.strongRecOn with
  | ind n ih =>
    by_cases c : n < 16
    · rw [hexD_lt c]
      simp [hexV, (hexC_val n c).1]
    · rw [hexD_ge c, hexV_snoc, ih (n / 16) (by omega), (hexC_val (n % 16) (by omega)).1]
      omega
theorem hexV_zeros (k : Nat) (l : List UInt8) : hexV (List.replicate k 48 ++ l) = hexV l := by
  induction k with
  | zero => rfl
  | succ k ih =>
    rw [List.replicate_succ, List.cons_append, ← ih]
    rfl
theorem hexV_pad (l : List UInt8) : hexV (pad4 l) = hexV l := hexV_zeros _ _
theorem hexD_mem (n : Nat) : ∀ c ∈ hexD n, c ≠ 44 ∧ c ≠ 45 ∧ c ≠ 110 := by
  induction n using Nat.strongRecOn with
  | ind n ih =>
    intro c hc
    by_cases h : n < 16
    · rw [hexD_lt h] at hc
      rw [List.mem_singleton.1 hc]
      exact (hexC_val n h).2
    · rw [hexD_ge h] at hc
      rcases List.mem_append.1 hc with hc | hc
      · exact ih _ (by omega) c hc
      · rw [List.mem_singleton.1 hc]
        exact (hexC_val _ (by omega)).2
theorem numText_mem (n : Int) : ∀ c ∈ numText n, c ≠ 44 ∧ c ≠ 45 ∧ c ≠ 110 := by
  intro c hc
  rcases List.mem_append.1 (show c ∈ List.replicate (4 - (hexD n.toNat).length) 48 ++ hexD n.toNat from hc) with hc | hc
  · rw [List.eq_of_mem_replicate hc]; decide
  · exact hexD_mem _ c hc
theorem numText_inj {a b : Int} (ha : 0 ≤ a) (hb : 0 ≤ b) (h : numText a = numText b) : a = b := by
  have := congrArg hexV h
  unfold numText at this
  rw [hexV_pad, hexV_pad, hexV_hexD, hexV_hexD] at this
  omega
/-- What stands ahead of the first sign of a kind. -/
theorem split_at {s : UInt8} {a b c d : List UInt8} (ha : ∀ x ∈ a, x ≠ s) (hb : ∀ x ∈ b, x ≠ s) (h : a ++ s :: c = b ++ s :: d) : a = b ∧ c = d := by
  induction a generalizing b with
  | nil =>
    cases b with
    | nil => simp at h; exact ⟨rfl, h⟩
    | cons y b => simp at h; exact absurd h.1.symm (hb y List.mem_cons_self)
  | cons x a ih =>
    cases b with
    | nil => simp at h; exact absurd h.1 (ha x List.mem_cons_self)
    | cons y b =>
      simp at h
      obtain ⟨rfl, h⟩ := h
      have := ih (fun z hz => ha z (List.mem_cons_of_mem _ hz)) (fun z hz => hb z (List.mem_cons_of_mem _ hz)) h
      exact ⟨by rw [this.1], this.2⟩
theorem no_split {s : UInt8} {a b c : List UInt8} (ha : ∀ x ∈ a, x ≠ s) : a ≠ b ++ s :: c := by
  rintro rfl
  exact ha s (by simp) rfl
theorem rgText_mem (x : Rng) : ∀ c ∈ rgText x, c ≠ 44 ∧ c ≠ 110 := by
  intro c hc
  unfold rgText at hc
  split at hc
  · exact ⟨(numText_mem _ c hc).1, (numText_mem _ c hc).2.2⟩
  · rcases List.mem_append.1 hc with hc | hc
    · rcases List.mem_append.1 hc with hc | hc
      · exact ⟨(numText_mem _ c hc).1, (numText_mem _ c hc).2.2⟩
      · rw [List.mem_singleton.1 hc]; decide
    · exact ⟨(numText_mem _ c hc).1, (numText_mem _ c hc).2.2⟩
theorem rgText_inj {x y : Rng} (hx : may x = true) (hy : may y = true) (h : rgText x = rgText y) : x = y := by
  obtain ⟨x1, x2, _⟩ := (may_iff x).1 hx
  obtain ⟨y1, y2, _⟩ := (may_iff y).1 hy
  have nx := fun n c hc => (numText_mem n c hc).2.1
  unfold rgText at h
  split at h <;> split at h
  · have := numText_inj x1 y1 h
    exact Prod.ext this (by omega)
  · rw [List.append_assoc] at h
    exact absurd h (no_split (nx _))
  · rw [List.append_assoc] at h
    exact absurd h.symm (no_split (nx _))
  · rw [List.append_assoc, List.append_assoc] at h
    obtain ⟨a, b⟩ := split_at (nx _) (nx _) h
    exact Prod.ext (numText_inj x1 y1 a) (numText_inj (by omega) (by omega) b)

/-- The texts, one behind the other, with commas between. -/
def listText : List Rng → List UInt8
  | [] => []
  | [x] => rgText x
  | x :: y :: r => rgText x ++ 44 :: listText (y :: r)
/-- A right list's text. -/
def setText (xs : List Rng) : List UInt8 := if xs = [] then [110, 111, 110, 101] else listText xs
theorem listText_inj {xs ys : List Rng} (hx : ∀ x ∈ xs, may x = true) (hy : ∀ x ∈ ys, may x = true) (nx : xs ≠ []) (ny : ys ≠ []) (h : listText xs = listText ys) : xs = ys := by
  induction xs generalizing ys with
  | nil => exact absurd rfl nx
  | cons x xs ih =>
    have ax := fun c hc => (rgText_mem x c hc).1
    cases ys with
    | nil => exact absurd rfl ny
    | cons y ys =>
      have ay := fun c hc => (rgText_mem y c hc).1
      cases xs with
      | nil =>
        cases ys with
        | nil => rw [rgText_inj (hx x (by simp)) (hy y (by simp)) h]
        | cons z ys => exact absurd h (no_split ax)
      | cons u xs =>
        cases ys with
        | nil => exact absurd h.symm (no_split ay)
        | cons z ys =>
          obtain ⟨a, b⟩ := split_at ax ay h
          have e := rgText_inj (hx x (by simp)) (hy y (by simp)) a
          have e2 := ih (fun t ht => hx t (List.mem_cons_of_mem _ ht)) (fun t ht => hy t (List.mem_cons_of_mem _ ht)) (by simp) (by simp) b
          rw [e, e2]
theorem listText_mem (xs : List Rng) : ∀ c ∈ listText xs, c ≠ 110 := by
  induction xs with
  | nil => simp [listText]
  | cons x xs ih =>
    cases xs with
    | nil => exact fun c hc => (rgText_mem x c hc).2
    | cons y r =>
      intro c hc
      rcases List.mem_append.1 (show c ∈ rgText x ++ 44 :: listText (y :: r) from hc) with hc | hc
      · exact (rgText_mem x c hc).2
      · rcases List.mem_cons.1 hc with rfl | hc
        · decide
        · exact ih c hc
theorem setText_inj {xs ys : List Rng} (hx : right xs = true) (hy : right ys = true) (h : setText xs = setText ys) : xs = ys := by
  have mx := fun x hm => (right_may (b := -1) hx x hm).1
  have my := fun x hm => (right_may (b := -1) hy x hm).1
  unfold setText at h
  split at h <;> split at h
  · simp_all
  · exact absurd rfl (listText_mem ys 110 (by rw [← h]; simp))
  · exact absurd rfl (listText_mem xs 110 (by rw [h]; simp))
  · exact listText_inj mx my (by assumption) (by assumption) h
theorem setText_eq {xs ys : List Rng} (hx : right xs = true) (hy : right ys = true) : decide (xs = ys) = decide (setText xs = setText ys) := by
  rw [decide_eq_decide]
  exact ⟨fun e => by rw [e], setText_inj hx hy⟩
theorem listText_snoc (xs : List Rng) (x : Rng) : listText (xs ++ [x]) = if xs = [] then rgText x else listText xs ++ 44 :: rgText x := by
  induction xs with
  | nil => rfl
  | cons y ys ih =>
    rw [if_neg (by simp)]
    cases ys with
    | nil => rfl
    | cons z zs =>
      show rgText y ++ 44 :: listText ((z :: zs) ++ [x]) = _
      rw [ih, if_neg (by simp)]
      simp [listText]
theorem rgText_len (x : Rng) (h : may x = true) : (rgText x).length ≤ 17 := by
  obtain ⟨x1, x2, x3⟩ := (may_iff x).1 h
  have h1 := numText_len x.1 x1 (by omega)
  have h2 := numText_len x.2 (by omega) (by omega)
  unfold rgText
  split
  · omega
  · simp; omega
theorem listText_len (xs : List Rng) (h : ∀ x ∈ xs, may x = true) : (listText xs).length ≤ 18 * xs.length := by
  induction xs with
  | nil => simp [listText]
  | cons x xs ih =>
    have hx := rgText_len x (h x (by simp))
    have hi := ih fun y hy => h y (List.mem_cons_of_mem _ hy)
    cases xs with
    | nil => simp [listText]; omega
    | cons y r =>
      have e : listText (x :: y :: r) = rgText x ++ 44 :: listText (y :: r) := rfl
      rw [e]
      simp at hi ⊢
      omega
end Go.Proofs.YtphhdkffnboboaaGreatDoor

namespace Go.Proofs.YtphhdkffnboboaaGreatDoor
open Go.RowKit Go.Shelf
open Go.Lib

def hexE (n : Nat) : List UInt8 := if n = 0 then [] else hexD n
theorem hexE_pos {n : Nat} (h : 0 < n) : hexE n = hexE (n / 16) ++ [hexC (n % 16)] := by
  unfold hexE
  rw [if_neg (by omega)]
  by_cases c : n < 16
  · rw [if_pos (by omega), hexD_lt c, show n % 16 = n by omega]; rfl
  · rw [if_neg (by omega), hexD_ge c]
theorem pad4_E (n : Nat) : pad4 (hexE n) = pad4 (hexD n) := by
  unfold hexE
  split
  · subst n; rw [hexD_lt (by omega)]; decide +kernel
  · rfl
theorem pad4_cons (L : List UInt8) (h : L.length < 4) : pad4 (48 :: L) = pad4 L := by
  unfold pad4
  rw [show 4 - L.length = (4 - (48 :: L).length) + 1 by simp; omega, List.replicate_succ']
  simp
theorem pad4_long (L : List UInt8) (h : 4 ≤ L.length) : pad4 L = L := by
  unfold pad4
  rw [show 4 - L.length = 0 by omega]
  rfl
theorem hexE_len (n : Nat) (h : n < 4294967296) : (hexE n).length ≤ 8 := by
  have := (hexD_len n).2 7 (by omega)
  unfold hexE
  split
  · simp
  · omega
def sLen : Value → Nat
  | .string b => b.size
  | _ => 0
theorem sLen_str (L : List UInt8) : sLen (.string ⟨L.toArray⟩) = L.length := rfl
def hexLit : ByteArray := ⟨#[48, 49, 50, 51, 52, 53, 54, 55, 56, 57, 97, 98, 99, 100, 101, 102]⟩
theorem hexLit_at : ∀ d, d < 16 → hexLit.extract d (d + 1) = ⟨#[hexC d]⟩ := by decide +kernel
theorem hex_slice (m : Nat) (w : World) : (Instr.slice 9 (.string ⟨#[48, 49, 50, 51, 52, 53, 54, 55, 56, 57, 97, 98, 99, 100, 101, 102]⟩) (some (.int .i32 ((m : Int) % 16))) (some (.int .i32 ((m : Int) % 16 + 1))) none).run Tryz.prog w = .ok (.string ⟨#[hexC (m % 16)]⟩) w := by
  have := run_slice_string (P := Tryz.prog) w 9 hexLit .i32 .i32 ((m : Int) % 16) ((m : Int) % 16 + 1) Tryz.underlying9 (by omega) (by omega) (by show _ ≤ ((16 : Nat) : Int); omega)
  rw [show ((m : Int) % 16).toNat = m % 16 by omega, show ((m : Int) % 16 + 1).toNat = m % 16 + 1 by omega, hexLit_at _ (by omega)] at this
  exact this
theorem cons_str (c : UInt8) (L : List UInt8) : (⟨#[c]⟩ ++ ⟨L.toArray⟩ : ByteArray) = ⟨(c :: L).toArray⟩ := by simp [ByteArray.ext_iff]

set_option maxHeartbeats 1000000 in
set_option maxRecDepth 100000 in
theorem hex_any (n : Nat) (hn : n < 2147483648) (w : World) :
    Calls Tryz.prog 21 #[.int .i32 n] w fun e w' => e = .returned (.string ⟨(pad4 (hexD n)).toArray⟩) ∧ w' = w := by
  have hE := pad4_E n
  have hL := hexE_len n (by omega)
  generalize pad4 (hexD n) = out at *
  have HO := Lib.hid (And.intro hE hL)
  clear hE hL
  go_enter Tryz.func21, Tryz.ntmps21
  go_wp2
  go_loopw [0, 3] (fun r s wr => ∃ (m : Nat) (L : List UInt8), r = .int .i32 m ∧ s = .string ⟨L.toArray⟩ ∧ m ≤ n ∧ pad4 (hexE m ++ L) = out ∧ (hexE m ++ L).length ≤ 8 ∧ wr = w) (fun r s _ => (RowKit.intOf r).toNat + (4 - sLen s))
  case atStart => exact ⟨n, [], rfl, rfl, Nat.le_refl _, by rw [List.append_nil]; exact HO.out.1, by rw [List.append_nil]; exact HO.out.2, rfl⟩
  case round =>
    obtain ⟨m, L, rfl, rfl, hm, hP, hLn, rfl⟩ := hrel
    have hLl : L.length ≤ 8 := by simp at hLn; omega
    have HP := Lib.hid (And.intro hP hLn)
    clear hP hLn
    have b0 : (0 : Int) ≤ (m : Int) := by omega
    have b1 : (m : Int) ≤ 2147483647 := by omega
    by_cases c : 0 < m
    · have d : (0 : Int) < (m : Int) := by omega
      have hs := hex_slice m
      have hE := hexE_pos c
      have HR := Lib.hid (show pad4 (hexE (m / 16) ++ hexC (m % 16) :: L) = out ∧ (hexE (m / 16) ++ hexC (m % 16) :: L).length ≤ 8 by
        have h := HP.out
        rw [hE, List.append_assoc] at h
        exact h)
      have HC := Lib.hid cons_str
      clear hE
      go_wp2_with fail
      rw [HC.out]
      go_roundw
      case rel => exact ⟨m / 16, hexC (m % 16) :: L, by rw [Int.natCast_ediv]; rfl, rfl, by omega, HR.out.1, HR.out.2, trivial⟩
      case measure => rw [sLen_str, sLen_str]; simp [RowKit.intOf]; omega
    · have hm0 : m = 0 := by omega
      subst hm0
      have e0 : hexE 0 = [] := rfl
      rw [e0, List.nil_append] at HP
      have d : decide ((0 : Int) < ((0 : Nat) : Int)) = false := by decide
      by_cases c4 : L.length < 4
      · have d4 : (L.length : Int) < 4 := by omega
        have HC := Lib.hid cons_str
        have HR := Lib.hid (show pad4 (hexE 0 ++ 48 :: L) = out ∧ (hexE 0 ++ 48 :: L).length ≤ 8 by
          rw [e0, List.nil_append, pad4_cons L c4]
          exact ⟨HP.out.1, by simp; omega⟩)
        clear e0
        go_wp2_with fail
        have e2 : ({ data := #[48, 49, 50, 51, 52, 53, 54, 55, 56, 57, 97, 98, 99, 100, 101, 102] } : ByteArray).extract 0 1 = ⟨#[48]⟩ := by decide +kernel
        rw [e2, HC.out]
        go_roundw
        case rel => exact ⟨0, 48 :: L, rfl, rfl, by omega, HR.out.1, HR.out.2, trivial⟩
        case measure => rw [sLen_str, sLen_str]; simp [RowKit.intOf]; omega
      · have d4 : decide ((L.length : Int) < 4) = false := by simp; omega
        have HR := Lib.hid (show L = out by rw [← HP.out.1, pad4_long L (by omega)])
        clear e0
        go_wp2
        go_ret
        exact ⟨by rw [← HR.out]; rfl, rfl⟩
theorem hexi_any (n : Int) (h0 : 0 ≤ n) (h1 : n < 2147483648) (w : World) :
    Calls Tryz.prog 21 #[.int .i32 n] w fun e w' => e = .returned (.string ⟨(numText n).toArray⟩) ∧ w' = w := by
  obtain ⟨m, rfl⟩ : ∃ m : Nat, n = m := ⟨n.toNat, by omega⟩
  exact hex_any m (by omega) w
theorem cat_str (a b : List UInt8) : (⟨a.toArray⟩ ++ ⟨b.toArray⟩ : ByteArray) = ⟨(a ++ b).toArray⟩ := by simp [ByteArray.ext_iff]
theorem listText_step (xs : List Rng) (k : Nat) (x : Rng) (h : xs[k]? = some x) : listText (xs.take (k + 1)) = if k = 0 then rgText x else listText (xs.take k) ++ 44 :: rgText x := by
  rw [List.take_add_one, h]
  show listText (xs.take k ++ [x]) = _
  rw [listText_snoc]
  cases k with
  | zero => simp
  | succ k =>
    have hx := (List.getElem?_eq_some_iff.1 h).1
    rw [if_neg (show ¬ k + 1 = 0 by omega), if_neg]
    intro e
    have h2 := congrArg List.length e
    rw [List.length_take, List.length_nil] at h2
    omega

set_option maxHeartbeats 4000000 in
set_option maxRecDepth 100000 in
theorem rprint_any (A : Option Addr) (cap : Nat) (xs : List Rng) (w : World) (h : RS w w.heap.size A cap xs) (hm : ∀ x ∈ xs, may x = true) (hl : xs.length ≤ 1000) :
    Calls Tryz.prog 9 #[.slice A xs.length cap] w fun e w' => e = .returned (.string ⟨(setText xs).toArray⟩) ∧ Below w.heap.size w w' := by
  have H := Lib.hid h
  have HM := Lib.hid hm
  have HX := Lib.hid hexi_any
  have HC := Lib.hid cat_str
  obtain ⟨n, hn⟩ : ∃ n, xs.length = n := ⟨_, rfl⟩
  have HN := Lib.hid hn
  rw [hn] at hl ⊢
  clear h hm hn
  by_cases h0 : n = 0
  · subst h0
    have e : xs = [] := List.length_eq_zero_iff.1 HN.out
    rw [e]
    clear e
    go_enter Tryz.func9, Tryz.ntmps9
    go_wp2
    go_ret
    exact ⟨rfl, Below.refl _ _⟩
  · have i0 : ((n : Int) == 0) = false := by simp; omega
    have hne : xs ≠ [] := by rintro rfl; exact h0 HN.out.symm
    have e : setText xs = listText xs := if_neg hne
    rw [e]
    clear e hne
    go_enter Tryz.func9, Tryz.ntmps9
    go_wp2
    go_loopw [3, 4] (fun s i wr => ∃ k q : Nat, i = .int .i64 k ∧ k ≤ n ∧ s = .string ⟨(listText (xs.take k)).toArray⟩ ∧ wr = w.drewN q) (fun _ i _ => n - (RowKit.intOf i).toNat)
    case atStart => exact ⟨0, 0, rfl, Nat.zero_le _, rfl, rfl⟩
    case round =>
      obtain ⟨k, q, rfl, hk, rfl, rfl⟩ := hrel
      by_cases hlt : k < n
      · obtain ⟨x, hx⟩ : ∃ x, xs[k]? = some x := ⟨xs[k]'(by have := HN.out; omega), List.getElem?_eq_getElem _⟩
        obtain ⟨b, o, rfl, hbl, hRg⟩ := H.out.2.2.2 (by intro e; rw [e] at hx; simp at hx)
        obtain ⟨q1, q2⟩ := hRg k x hx
        have hmx := (may_iff x).1 (HM.out x (List.mem_of_getElem? hx))
        have HST := Lib.hid (listText_step xs k x hx)
        have HLZ := Lib.hid (show k = 0 → listText (xs.take k) = [] from fun e => by rw [e]; rfl)
        have HLZ := Lib.hid (show k = 0 → listText (xs.take k) = [] from fun e => by rw [e]; rfl)
        have htl := listText_len (xs.take k) (fun y hy => HM.out y (List.mem_of_mem_take hy))
        have htk : (xs.take k).length ≤ 1000 := by rw [List.length_take]; omega
        have q1' : (w.drewN q).cell? ⟨b, o + k * 2, none⟩ = some (.int .i32 x.1) := q1
        have q2' : (w.drewN q).cell? ⟨b, o + k * 2 + 1, none⟩ = some (.int .i32 x.2) := q2
        have HD := Lib.hid (fun m => (show (w.drewN q).drewN m = w.drewN (q + m) from World.drewN_drewN _ _ _))
        generalize w.drewN q = W at *
        generalize listText (xs.take k) = L at *
        clear hRg hx q1 q2
        obtain ⟨lo, hi⟩ := x
        obtain ⟨m1, m2, m3⟩ := hmx
        simp only at m1 m2 m3 q1' q2'
        have n1 := numText_len lo m1 (by omega)
        have n2 := numText_len hi (by omega) (by omega)
        have i1 : (k : Int) < (n : Int) := by omega
        have j0 : (0 : Int) ≤ (k : Int) := by omega
        have hLl : L.length ≤ 18000 := by omega
        clear htl htk
        by_cases c : lo = hi
        · subst c
          have HRX := Lib.hid (show rgText (lo, lo) = numText lo from if_pos rfl)
          generalize rgText (lo, lo) = RX at *
          have C1 := Lib.hid (fun W => HX.out lo m1 (by omega) W)
          generalize numText lo = t1 at *
          by_cases k0 : k = 0
          · rw [if_pos k0, HRX.out] at HST
            have hLn := Lib.hid (show L = [] from HLZ.out k0)
            have d0 : decide (0 < k) = false := by simp [k0]
            clear k0 HRX
            go_wp2_with fail
            refine (C1.out _).mono ?_
            rintro e w1 ⟨rfl, rfl⟩
            go_wp2_with fail
            go_quiet (fail)
            go_wp2
            go_roundw
            case rel => exact ⟨k + 1, _, by go_num, by omega, by rw [HST.out]; rw [hLn.out]; simp only [HC.out]; (try simp), HD.out _⟩
            case measure => simp [RowKit.intOf]; omega
          · rw [if_neg k0, HRX.out] at HST
            have d0 : (0 : Int) < (k : Int) := by omega
            clear k0 HRX
            go_wp2_with fail
            refine (C1.out _).mono ?_
            rintro e w1 ⟨rfl, rfl⟩
            go_wp2_with fail
            go_quiet (fail)
            go_wp2
            go_roundw
            case rel => exact ⟨k + 1, _, by go_num, by omega, by rw [HST.out]; skip; simp only [HC.out]; (try simp), HD.out _⟩
            case measure => simp [RowKit.intOf]; omega
        · have HRX := Lib.hid (show rgText (lo, hi) = numText lo ++ [45] ++ numText hi from if_neg c)
          have db : (hi == lo) = false := by simp; omega
          have db2 : (hi != lo) = true := by simp; omega
          generalize rgText (lo, hi) = RX at *
          have C1 := Lib.hid (fun W => HX.out lo m1 (by omega) W)
          have C2 := Lib.hid (fun W => HX.out hi (by omega) (by omega) W)
          generalize numText lo = t1 at *
          generalize numText hi = t2 at *
          clear c
          by_cases k0 : k = 0
          · rw [if_pos k0, HRX.out] at HST
            have hLn := Lib.hid (show L = [] from HLZ.out k0)
            have d0 : decide (0 < k) = false := by simp [k0]
            clear k0 HRX
            go_wp2_with fail
            refine (C1.out _).mono ?_
            rintro e w1 ⟨rfl, rfl⟩
            go_wp2_with fail
            go_quiet (fail)
            go_wp2_with fail
            refine (C2.out _).mono ?_
            rintro e w2 ⟨rfl, rfl⟩
            go_wp2
            go_roundw
            case rel => exact ⟨k + 1, _, by go_num, by omega, by rw [HST.out]; rw [hLn.out]; simp only [HC.out]; (try simp), HD.out _⟩
            case measure => simp [RowKit.intOf]; omega
          · rw [if_neg k0, HRX.out] at HST
            have d0 : (0 : Int) < (k : Int) := by omega
            clear k0 HRX
            go_wp2_with fail
            refine (C1.out _).mono ?_
            rintro e w1 ⟨rfl, rfl⟩
            go_wp2_with fail
            go_quiet (fail)
            go_wp2_with fail
            refine (C2.out _).mono ?_
            rintro e w2 ⟨rfl, rfl⟩
            go_wp2
            go_roundw
            case rel => exact ⟨k + 1, _, by go_num, by omega, by rw [HST.out]; skip; simp only [HC.out]; (try simp), HD.out _⟩
            case measure => simp [RowKit.intOf]; omega
      · have hkn : k = n := by omega
        have e : xs.take k = xs := by rw [hkn, ← HN.out, List.take_length]
        rw [e]
        have hb := below_drewN (Below.refl w.heap.size w) q
        subst hkn
        clear e
        go_wp2
        go_ret
        exact ⟨rfl, hb⟩
end Go.Proofs.YtphhdkffnboboaaGreatDoor
