/-
  What stands at a place: the code's way, without a program; contracts: tag.begins.
-/
import Derived.Test.YtplnkmojkdbbnaaFin
namespace Go.Proofs.Ytplnkmojkdbbnaa
open Go.RowKit Go.Shelf Go.Lib Go.Maps Go.Sort

theorem isPrefixOf_map (l m : List Nat) (hl : ∀ x ∈ l, x < 256) (hm : ∀ x ∈ m, x < 256) : (u8s l).isPrefixOf (u8s m) = l.isPrefixOf m := by
  induction l generalizing m with
  | nil => rfl
  | cons a l ih =>
    cases m with
    | nil => rfl
    | cons b m =>
      have e : (UInt8.ofNat a == UInt8.ofNat b) = (a == b) := by
        rw [Bool.eq_iff_iff]
        simp only [beq_iff_eq]
        exact ⟨fun h => ofNat_inj (hl a (by simp)) (hm b (by simp)) h, fun h => by rw [h]⟩
      show (UInt8.ofNat a == UInt8.ofNat b && (u8s l).isPrefixOf (u8s m)) = (a == b && l.isPrefixOf m)
      rw [e, ih m (fun x hx => hl x (by simp [hx])) (fun x hx => hm x (by simp [hx]))]
/-- What goes up to some bytes, looked for from here on. -/
def upGo (N kind : Nat) (e : List Nat) : List Nat → TG
  | [] => ⟨kind, N, [], [], false, false⟩
  | c :: t => if e.isPrefixOf (c :: t) = true then ⟨kind, N - (t.length + 1) + e.length, [], [], false, true⟩ else upGo N kind e t
theorem up_index (N kind : Nat) (e : List Nat) (he : e ≠ []) (h256 : ∀ x ∈ e, x < 256) : ∀ (l : List Nat), (∀ x ∈ l, x < 256) → l.length ≤ N →
    (Lib.index (u8s l) (u8s e) = -1 ∧ upGo N kind e l = ⟨kind, N, [], [], false, false⟩) ∨ (∃ k : Nat, Lib.index (u8s l) (u8s e) = (k : Int) ∧ upGo N kind e l = ⟨kind, N - l.length + k + e.length, [], [], false, true⟩ ∧ k + e.length ≤ l.length)
  | [], _, _ => by
    left
    refine ⟨?_, rfl⟩
    cases e with
    | nil => exact absurd rfl he
    | cons c t => rfl
  | c :: t, hl, hN => by
    have ih := up_index N kind e he h256 t (fun x hx => hl x (by simp [hx])) (by simp at hN; omega)
    have hp := isPrefixOf_map e (c :: t) h256 hl
    have hu : u8s (c :: t) = UInt8.ofNat c :: u8s t := rfl
    rw [hu] at hp ⊢
    rw [Lib.index, upGo, hp]
    by_cases h : e.isPrefixOf (c :: t) = true
    · right
      refine ⟨0, by rw [if_pos h]; rfl, by rw [if_pos h]; simp, ?_⟩
      have := (List.isPrefixOf_iff_prefix.1 h).length_le
      omega
    · rw [if_neg h, if_neg h]
      rcases ih with ⟨h1, h2⟩ | ⟨k, h1, h2, h3⟩
      · left
        rw [h1]
        exact ⟨by simp, h2⟩
      · right
        rw [h1]
        refine ⟨k + 1, ?_, ?_, by simp; omega⟩
        · have : ((k : Int) == -1) = false := by rw [beq_eq_false_iff_ne]; omega
          rw [this]
          simp
        · rw [h2]
          simp at hN ⊢
          omega
/-- What stands at the beginning. -/
def rdT (l : List Nat) : Option TG := match l with
  | d :: c :: t => if d ≠ 60 then none
    else if ltrB c = true then some (refGo (t.length + 2) 0 rs0 (c :: t))
    else if c = 47 ∧ (t.head?.map ltrB) = some true then some (refGo (t.length + 2) 1 rs0 t)
    else if c = 33 ∧ t.take 2 = [45, 45] then some (upGo (t.length + 2) 2 [45, 45, 62] (t.drop 2))
    else if c = 33 ∨ c = 63 ∨ c = 47 then some (upGo (t.length + 2) 3 [62] t) else none
  | _ => none
def tg0 : TG := ⟨0, 0, [], [], false, false⟩
def declB (c : Nat) : Bool := ([33, 63, 47] : List Nat).contains c
/-- Does a list begin so, and then with such a byte? -/
def begB (pre : List Nat) (p : Nat → Bool) (l : List Nat) : Bool := l.take pre.length == pre && (l[pre.length]?.map p).getD false
set_option maxHeartbeats 4000000 in
set_option maxRecDepth 100000 in
theorem beginsL_any (b o cap : Nat) (xs : List Nat) (w : World) (hb : BY w w.heap.size xs (some ⟨b, o, none⟩) cap) :
    Calls Try.prog 17 #[.slice (some ⟨b, o, none⟩) xs.length cap, .string ⟨#[60]⟩, .func (Fn.func 18) #[] #[]] w fun e w' => e = .returned (.bool (begB [60] ltrB xs)) ∧ w' = w := by
  have hlen := hb.len
  have hcap := hb.l
  by_cases hl : 1 < xs.length
  · obtain ⟨c, hc⟩ := at_lt (l := xs) (k := 1) hl
    obtain ⟨b', o', e', _, d1⟩ := hb.at hc
    obtain ⟨rfl, rfl⟩ : b = b' ∧ o = o' := by simpa using e'
    have htl : (xs.take 1).length = 1 := by simp; omega
    have hcv : (convert 22 9 (.slice (some ⟨b, o, none⟩) 1 cap)).run Try.prog w = .ok (.string ⟨(u8s (xs.take 1)).toArray⟩) w := by
      have h := conv_by (hb.take 1)
      rw [htl] at h
      exact h
    have h256 : ∀ x ∈ xs.take 1, x < 256 := fun x hx => hb.i x (List.mem_of_mem_take hx)
    have hR : begB [60] ltrB xs = (xs.take 1 == [60] && (ltrB) c) := by
      unfold begB
      rw [show ([60] : List Nat).length = 1 from rfl, hc]
      rfl
    rw [hR]
    have HC := Lib.hid (isLetter_any c)
    generalize xs.take 1 = tk at *
    generalize xs.length = N at *
    have i1 : (1 : Int) < (N : Int) := by omega
    have i2 : (1 : Int) ≤ (N : Int) := by omega
    clear hb hc e' hR htl
    generalize (ltrB) c = PC at *
    by_cases h60 : tk = [60]
    · subst h60
      go_enter Try.func17, Try.ntmps17
      go_wp2_with (first | (go_at_call 18; refine (HC.out _).mono ?_; rintro r w1 ⟨rfl, e37⟩; obtain rfl := e37.symm; clear e37) | fail)
      go_ret
      exact ⟨rfl, rfl⟩
    · have hbe : (tk == [60]) = false := by rw [beq_eq_false_iff_ne]; exact h60
      have hne : ¬ u8s tk = u8s [60] := fun e => h60 (u8s_inj h256 (by decide) e)
      rw [hbe]
      obtain ⟨SA, hSA⟩ : ∃ S : ByteArray, ⟨(u8s tk).toArray⟩ = S := ⟨_, rfl⟩
      rw [hSA] at hcv
      have hl1 : (SA.toList == [60]) = false := by
        rw [beq_eq_false_iff_ne, ← hSA]
        intro e
        apply hne
        have : (⟨(u8s tk).toArray⟩ : ByteArray).toList = u8s tk := by first | exact ByteArray.toList_mk _ | simp
        rw [← this, e]
        rfl
      clear hne h60 hbe h256 hSA
      go_enter Try.func17, Try.ntmps17
      go_wp2_with (first | (go_at_call 18; refine (HC.out _).mono ?_; rintro r w1 ⟨rfl, e37⟩; obtain rfl := e37.symm; clear e37) | fail)
      go_ret
      exact ⟨rfl, rfl⟩
  · have hR : begB [60] ltrB xs = false := by
      unfold begB
      rw [show ([60] : List Nat).length = 1 from rfl, List.getElem?_eq_none (by omega)]
      simp
    rw [hR]
    generalize xs.length = N at *
    have i1 : ¬ (1 : Int) < (N : Int) := by omega
    clear hb hR
    go_enter Try.func17, Try.ntmps17
    go_wp2_with fail
    go_ret
    exact ⟨rfl, rfl⟩
set_option maxHeartbeats 4000000 in
set_option maxRecDepth 100000 in
theorem beginsE_any (b o cap : Nat) (xs : List Nat) (w : World) (hb : BY w w.heap.size xs (some ⟨b, o, none⟩) cap) :
    Calls Try.prog 17 #[.slice (some ⟨b, o, none⟩) xs.length cap, .string ⟨#[60, 47]⟩, .func (Fn.func 18) #[] #[]] w fun e w' => e = .returned (.bool (begB [60, 47] ltrB xs)) ∧ w' = w := by
  have hlen := hb.len
  have hcap := hb.l
  by_cases hl : 2 < xs.length
  · obtain ⟨c, hc⟩ := at_lt (l := xs) (k := 2) hl
    obtain ⟨b', o', e', _, d1⟩ := hb.at hc
    obtain ⟨rfl, rfl⟩ : b = b' ∧ o = o' := by simpa using e'
    have htl : (xs.take 2).length = 2 := by simp; omega
    have hcv : (convert 22 9 (.slice (some ⟨b, o, none⟩) 2 cap)).run Try.prog w = .ok (.string ⟨(u8s (xs.take 2)).toArray⟩) w := by
      have h := conv_by (hb.take 2)
      rw [htl] at h
      exact h
    have h256 : ∀ x ∈ xs.take 2, x < 256 := fun x hx => hb.i x (List.mem_of_mem_take hx)
    have hR : begB [60, 47] ltrB xs = (xs.take 2 == [60, 47] && (ltrB) c) := by
      unfold begB
      rw [show ([60, 47] : List Nat).length = 2 from rfl, hc]
      rfl
    rw [hR]
    have HC := Lib.hid (isLetter_any c)
    generalize xs.take 2 = tk at *
    generalize xs.length = N at *
    have i1 : (2 : Int) < (N : Int) := by omega
    have i2 : (2 : Int) ≤ (N : Int) := by omega
    clear hb hc e' hR htl
    generalize (ltrB) c = PC at *
    by_cases h60 : tk = [60, 47]
    · subst h60
      go_enter Try.func17, Try.ntmps17
      go_wp2_with (first | (go_at_call 18; refine (HC.out _).mono ?_; rintro r w1 ⟨rfl, e37⟩; obtain rfl := e37.symm; clear e37) | fail)
      go_ret
      exact ⟨rfl, rfl⟩
    · have hbe : (tk == [60, 47]) = false := by rw [beq_eq_false_iff_ne]; exact h60
      have hne : ¬ u8s tk = u8s [60, 47] := fun e => h60 (u8s_inj h256 (by decide) e)
      rw [hbe]
      obtain ⟨SA, hSA⟩ : ∃ S : ByteArray, ⟨(u8s tk).toArray⟩ = S := ⟨_, rfl⟩
      rw [hSA] at hcv
      have hl1 : (SA.toList == [60, 47]) = false := by
        rw [beq_eq_false_iff_ne, ← hSA]
        intro e
        apply hne
        have : (⟨(u8s tk).toArray⟩ : ByteArray).toList = u8s tk := by first | exact ByteArray.toList_mk _ | simp
        rw [← this, e]
        rfl
      clear hne h60 hbe h256 hSA
      go_enter Try.func17, Try.ntmps17
      go_wp2_with (first | (go_at_call 18; refine (HC.out _).mono ?_; rintro r w1 ⟨rfl, e37⟩; obtain rfl := e37.symm; clear e37) | fail)
      go_ret
      exact ⟨rfl, rfl⟩
  · have hR : begB [60, 47] ltrB xs = false := by
      unfold begB
      rw [show ([60, 47] : List Nat).length = 2 from rfl, List.getElem?_eq_none (by omega)]
      simp
    rw [hR]
    generalize xs.length = N at *
    have i1 : ¬ (2 : Int) < (N : Int) := by omega
    clear hb hR
    go_enter Try.func17, Try.ntmps17
    go_wp2_with fail
    go_ret
    exact ⟨rfl, rfl⟩
set_option maxHeartbeats 4000000 in
set_option maxRecDepth 100000 in
theorem beginsD_any (b o cap : Nat) (xs : List Nat) (w : World) (hb : BY w w.heap.size xs (some ⟨b, o, none⟩) cap) (gs : Nat) (hs : Cells w gs 9 #[strV [33, 63, 47]]) :
    Calls Try.prog 17 #[.slice (some ⟨b, o, none⟩) xs.length cap, .string ⟨#[60]⟩, .func (Fn.func 35) #[] #[.pointer (some ⟨gs, 0, none⟩)]] w fun e w' => e = .returned (.bool (begB [60] declB xs)) ∧ Below w.heap.size w w' := by
  have hlen := hb.len
  have hcap := hb.l
  by_cases hl : 1 < xs.length
  · obtain ⟨c, hc⟩ := at_lt (l := xs) (k := 1) hl
    obtain ⟨b', o', e', _, d1⟩ := hb.at hc
    obtain ⟨rfl, rfl⟩ : b = b' ∧ o = o' := by simpa using e'
    have htl : (xs.take 1).length = 1 := by simp; omega
    have hcv : (convert 22 9 (.slice (some ⟨b, o, none⟩) 1 cap)).run Try.prog w = .ok (.string ⟨(u8s (xs.take 1)).toArray⟩) w := by
      have h := conv_by (hb.take 1)
      rw [htl] at h
      exact h
    have h256 : ∀ x ∈ xs.take 1, x < 256 := fun x hx => hb.i x (List.mem_of_mem_take hx)
    have hR : begB [60] declB xs = (xs.take 1 == [60] && (declB) c) := by
      unfold begB
      rw [show ([60] : List Nat).length = 1 from rfl, hc]
      rfl
    rw [hR]
    have HC := Lib.hid (show Calls Try.prog 35 #[.int .u8 (c : Int), .pointer (some ⟨gs, 0, none⟩)] w (fun e w' => e = .returned (.bool (declB c)) ∧ Below w.heap.size w w') from one_any [33, 63, 47] (by decide) gs w hs c (hb.lt hc))
    generalize xs.take 1 = tk at *
    generalize xs.length = N at *
    have i1 : (1 : Int) < (N : Int) := by omega
    have i2 : (1 : Int) ≤ (N : Int) := by omega
    clear hb hc e' hR htl
    generalize (declB) c = PC at *
    by_cases h60 : tk = [60]
    · subst h60
      go_enter Try.func17, Try.ntmps17
      go_wp2_with (first | (go_at_call 35; refine HC.out.mono ?_; rintro r w1 ⟨rfl, hb1⟩) | fail)
      go_ret
      exact ⟨rfl, hb1⟩
    · have hbe : (tk == [60]) = false := by rw [beq_eq_false_iff_ne]; exact h60
      have hne : ¬ u8s tk = u8s [60] := fun e => h60 (u8s_inj h256 (by decide) e)
      rw [hbe]
      obtain ⟨SA, hSA⟩ : ∃ S : ByteArray, ⟨(u8s tk).toArray⟩ = S := ⟨_, rfl⟩
      rw [hSA] at hcv
      have hl1 : (SA.toList == [60]) = false := by
        rw [beq_eq_false_iff_ne, ← hSA]
        intro e
        apply hne
        have : (⟨(u8s tk).toArray⟩ : ByteArray).toList = u8s tk := by first | exact ByteArray.toList_mk _ | simp
        rw [← this, e]
        rfl
      clear hne h60 hbe h256 hSA
      go_enter Try.func17, Try.ntmps17
      go_wp2_with (first | (go_at_call 35; refine HC.out.mono ?_; rintro r w1 ⟨rfl, hb1⟩) | fail)
      go_ret
      exact ⟨rfl, Below.refl _ _⟩
  · have hR : begB [60] declB xs = false := by
      unfold begB
      rw [show ([60] : List Nat).length = 1 from rfl, List.getElem?_eq_none (by omega)]
      simp
    rw [hR]
    generalize xs.length = N at *
    have i1 : ¬ (1 : Int) < (N : Int) := by omega
    clear hb hR
    go_enter Try.func17, Try.ntmps17
    go_wp2_with fail
    go_ret
    exact ⟨rfl, Below.refl _ _⟩
end Go.Proofs.Ytplnkmojkdbbnaa
