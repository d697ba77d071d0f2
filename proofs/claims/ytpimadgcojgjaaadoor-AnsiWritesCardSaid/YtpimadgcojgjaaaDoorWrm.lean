/-
  What ansi.Write writes is read again: numbers, size. No program.
-/
import Derived.Test.YtpimadgcojgjaaaDoorApm
namespace Go.Proofs.YtpimadgcojgjaaaDoor
open Go.RowKit Go.Shelf Go.Lib Go.Maps

theorem nats_append (a b : List UInt8) : nats (a ++ b) = nats a ++ nats b := by simp [nats]
theorem decDigits_num (n : Nat) : numV 0 (nats (Lib.decDigits n)) = n ∧ (nats (Lib.decDigits n)).all dig = true := by
  induction n using Nat.strongRecOn with
  | _ n ih =>
    by_cases h : n < 10
    · rw [Lib.decDigits, dif_pos h]
      have e : (UInt8.ofNat (48 + n)).toNat = 48 + n := by simp; omega
      have e2 : nats [UInt8.ofNat (48 + n)] = [48 + n] := by unfold nats; rw [List.map_cons, e]; rfl
      rw [e2]
      have e3 : numV 0 [48 + n] = 10 * 0 + (48 + n - 48) := rfl
      have e4 : dig (48 + n) = true := by unfold dig; exact inR_yes (by omega) (by omega)
      refine ⟨by rw [e3]; omega, ?_⟩
      rw [List.all_cons, e4]
      rfl
    · have h1 := ih (n / 10) (by omega)
      rw [Lib.decDigits, dif_neg h, nats_append]
      have e : (UInt8.ofNat (48 + n % 10)).toNat = 48 + n % 10 := by simp; omega
      have e2 : nats [UInt8.ofNat (48 + n % 10)] = [48 + n % 10] := by unfold nats; rw [List.map_cons, e]; rfl
      have e4 : dig (48 + n % 10) = true := by unfold dig; exact inR_yes (by omega) (by omega)
      rw [e2, numV_snoc, h1.1, List.all_append, h1.2]
      refine ⟨by omega, ?_⟩
      rw [List.all_cons, e4]
      rfl
theorem dig_59 {l : List Nat} (h : l.all dig = true) : ∀ x ∈ l, x ≠ 59 := by
  intro x hx e
  have := List.all_eq_true.1 h x hx
  subst e
  simp [dig, inR] at this
theorem refN_digits {p r out : List Nat} (hp : p.all dig = true) (h5 : p.length ≤ 5) : refN out 0 0 (p ++ r) = refN out (numV 0 p) p.length r := by
  rw [refN_part p r out 0 0 (dig_59 hp) (by omega), if_pos ⟨by omega, hp⟩, Nat.zero_add]
theorem okZ_iff {z : Int} : okZ z = true ↔ 0 ≤ z ∧ z ≤ 99999 := by simp [okZ]
theorem itoa_dig {z : Int} (h : okZ z = true) : numV 0 (nats (Lib.itoa z)) = z.toNat ∧ (nats (Lib.itoa z)).all dig = true ∧ (nats (Lib.itoa z)).length ≤ 5 := by
  obtain ⟨h0, h1⟩ := okZ_iff.1 h
  rw [nats_len]
  refine ⟨?_, ?_, itoa_len h0 h1⟩
  · rw [itoa_pos h0]; exact (decDigits_num _).1
  · rw [itoa_pos h0]; exact (decDigits_num _).2
theorem joinTail_cons (y : List UInt8) (r : List (List UInt8)) : Lib.joinTail [59] (y :: r) = 59 :: (y ++ Lib.joinTail [59] r) := by simp [Lib.joinTail]
theorem nats_cons (u : UInt8) (l : List UInt8) : nats (u :: l) = u.toNat :: nats l := rfl
theorem refN_tail : ∀ (r : List Int) (p out : List Nat), p.all dig = true → p.length ≤ 5 → r.all okZ = true → refN out 0 0 (p ++ nats (Lib.joinTail [59] (r.map Lib.itoa))) = some (out ++ numV 0 p :: r.map Int.toNat)
  | [], p, out, hp, h5, _ => by
    rw [refN_digits hp h5]
    rfl
  | y :: r, p, out, hp, h5, hr => by
    rw [List.all_cons, Bool.and_eq_true] at hr
    obtain ⟨h1, h2, h3⟩ := itoa_dig hr.1
    rw [refN_digits hp h5, List.map_cons, joinTail_cons, nats_cons]
    show refN out (numV 0 p) p.length (59 :: nats (Lib.itoa y ++ Lib.joinTail [59] (r.map Lib.itoa))) = _
    rw [refN_sep, nats_append, refN_tail r (nats (Lib.itoa y)) (out ++ [numV 0 p]) h2 h3 hr.2, h1]
    simp
/-- The numbers that are read of what was written. -/
def backL (zs : List Int) : List Nat := if zs = [] then [0] else zs.map Int.toNat
theorem refN_join {zs : List Int} (h : zs.all okZ = true) : refN [] 0 0 (nats (Lib.join (zs.map Lib.itoa) [59])) = some (backL zs) := by
  cases zs with
  | nil => rfl
  | cons z r =>
    rw [List.all_cons, Bool.and_eq_true] at h
    obtain ⟨h1, h2, h3⟩ := itoa_dig h.1
    rw [List.map_cons, Lib.join_cons, nats_append, refN_tail r _ [] h2 h3 h.2, h1]
    rfl
theorem params_join {zs : List Int} (h : zs.all okZ = true) : ∀ x ∈ nats (Lib.join (zs.map Lib.itoa) [59]), inR 48 63 x = true := by
  have hd : ∀ p : List Nat, p.all dig = true → ∀ x ∈ p, inR 48 63 x = true := fun p hp x hx => by
    have := List.all_eq_true.1 hp x hx
    simp [dig, inR] at this ⊢
    omega
  have ht : ∀ r : List Int, r.all okZ = true → ∀ x ∈ nats (Lib.joinTail [59] (r.map Lib.itoa)), inR 48 63 x = true := fun r => by
    induction r with
    | nil => intro _ x hx; simp [Lib.joinTail, nats] at hx
    | cons y r ih =>
      intro hr x hx
      rw [List.all_cons, Bool.and_eq_true] at hr
      rw [List.map_cons, joinTail_cons, nats_cons, nats_append] at hx
      rcases List.mem_cons.1 hx with rfl | hx
      · rfl
      · rcases List.mem_append.1 hx with hx | hx
        · exact hd _ (itoa_dig hr.1).2.1 x hx
        · exact ih hr.2 x hx
  cases zs with
  | nil => intro x hx; simp [Lib.join_nil, nats] at hx
  | cons z r =>
    rw [List.all_cons, Bool.and_eq_true] at h
    intro x hx
    rw [List.map_cons, Lib.join_cons, nats_append] at hx
    rcases List.mem_append.1 hx with hx | hx
    · exact hd _ (itoa_dig h.1).2.1 x hx
    · exact ht r h.2 x hx
theorem writeU_yes {c : Nat} {zs : List Int} (hf : inR 64 126 c = true) (h : zs.all okZ = true) : writeU c zs = 27 :: 91 :: (Lib.join (zs.map Lib.itoa) [59] ++ [UInt8.ofNat c]) := by rw [writeU, if_pos ⟨hf, h⟩]
theorem nats_write {c : Nat} {zs : List Int} (hc : c < 256) (hf : inR 64 126 c = true) (h : zs.all okZ = true) : nats (writeU c zs) = 27 :: 91 :: (nats (Lib.join (zs.map Lib.itoa) [59]) ++ [c]) := by
  rw [writeU_yes hf h, nats_cons, nats_cons, nats_append]
  have e : nats [UInt8.ofNat c] = [c] := by simp [nats]; omega
  rw [e]
  rfl
theorem write_read {c : Nat} {zs : List Int} (hc : c < 256) (hf : inR 64 126 c = true) (h : zs.all okZ = true) (ys : List Nat) : readT (nats (writeU c zs) ++ ys) = ⟨(writeU c zs).length, true, false, c⟩ := by
  rw [← nats_len, nats_write hc hf h]
  have := readT_seq (nats (Lib.join (zs.map Lib.itoa) [59])) c ys (params_join h) hf
  simp only [List.cons_append, List.append_assoc, List.nil_append, List.length_cons, List.length_append, List.length_nil] at *
  exact this
theorem numsAt_zero (xs : List Nat) : numsAt xs 0 = numbersT xs := rfl
theorem write_nums {c : Nat} {zs : List Int} (hc : c < 256) (hf : inR 64 126 c = true) (h : zs.all okZ = true) : numsAt (nats (writeU c zs)) 0 = some (backL zs) := by
  have hr := write_read hc hf h []
  rw [List.append_nil] at hr
  have hlen : (writeU c zs).length = (nats (Lib.join (zs.map Lib.itoa) [59])).length + 3 := by rw [← nats_len, nats_write hc hf h]; simp
  have h1 : (nats (writeU c zs))[1]? = some 91 := by rw [nats_write hc hf h]; rfl
  rw [numsAt_zero, numbersT, if_pos ⟨by rw [hr], h1⟩]
  have hm : midL (nats (writeU c zs)) = nats (Lib.join (zs.map Lib.itoa) [59]) := by
    unfold midL
    rw [hr, nats_write hc hf h]
    show ((nats (Lib.join (zs.map Lib.itoa) [59]) ++ [c])).take ((writeU c zs).length - 3) = _
    rw [hlen, Nat.add_sub_cancel, List.take_left]
  rw [hm]
  exact refN_join h
theorem join_snoc (l : List (List UInt8)) (x : List UInt8) (h : l ≠ []) : Lib.join (l ++ [x]) [59] = Lib.join l [59] ++ 59 :: x := by
  cases l with
  | nil => exact absurd rfl h
  | cons y r =>
    rw [List.cons_append, Lib.join_cons, Lib.join_cons, List.append_assoc]
    congr 1
    simp [Lib.joinTail]
end Go.Proofs.YtpimadgcojgjaaaDoor
