/-
  ExtractPlain HOLDS: text without <, & and the byte 1b means its own scalars: for every input, in whatever memory in which the listed tables read as the library lays them.
  An argument that is a slice of runes.
  ExtractPlain's walk.
  Contract: extract.Text.
  Own rows of bytes: a slice of bytes more; contracts: virguleref01.Put, scalar.Put.
  Text without the three signs: its tokens, its items.
-/
import Derived.Maps.AppendAt
import Derived.Laws.AppendOwnNone
import Derived.Deep.CutRange
import Derived.Lay
import Derived.LaidOnce
import Derived.LaidMore
import Derived.ChangeOld
import Derived.ShutString
import Derived.SevenTiedAt
import Derived.Test.YtojinnnpfjhifaaGreatDoorXqa
import Derived.Test.YtojinnnpfjhifaaGreatDoorXqb
import Derived.Test.YtojinnnpfjhifaaGreatDoorXqc
import Derived.Test.YtojinnnpfjhifaaGreatDoorXqd
import Derived.Test.YtojinnnpfjhifaaGreatDoorXqe
import Derived.Test.YtojinnnpfjhifaaGreatDoorXqf
import Derived.Test.YtojinnnpfjhifaaGreatDoorXqg
import Derived.Test.YtojinnnpfjhifaaGreatDoorXqh
import Derived.Test.YtojinnnpfjhifaaGreatDoorXqi
import Derived.Test.YtojinnnpfjhifaaGreatDoorXqj
import Derived.Test.YtojinnnpfjhifaaGreatDoorXqk
import Derived.Test.YtojinnnpfjhifaaGreatDoorXql
import Derived.Test.YtojinnnpfjhifaaGreatDoorXqm
import Derived.Test.YtojinnnpfjhifaaGreatDoorXqn
import Derived.Test.YtojinnnpfjhifaaGreatDoorCards
import Derived.Test.YtojinnnpfjhifaaGreatDoorTie
namespace Go.Proofs.YtojinnnpfjhifaaGreatDoor.K
open Go.RowKit Go.Shelf Go.Lib Go.Maps
attribute [local irreducible] nmL ofN

theorem putN_ne {r : Int} {c : Nat} (hc : c < 128) (h : r ≠ (c : Int)) : ∀ x ∈ putN r, x ≠ c := by
  intro x hx e
  obtain ⟨z, hz, hzx⟩ := List.mem_map.1 hx
  have hb := encodeRuneZ_byte r z hz
  have hzc : z = (c : Int) := by omega
  by_cases h0 : r < 0 ∨ (55296 ≤ r ∧ r ≤ 57343) ∨ 1114111 < r
  · rw [encodeRuneZ_bad h0] at hz
    simp at hz
    omega
  · by_cases c1 : r ≤ 127
    · rw [encodeRuneZ_one (by omega) c1] at hz
      simp at hz
      omega
    · by_cases c2 : r ≤ 2047
      · rw [encodeRuneZ_two (by omega) c2] at hz
        simp at hz
        omega
      · by_cases c3 : r ≤ 65535
        · rw [encodeRuneZ_three (by omega)] at hz
          simp at hz
          omega
        · rw [encodeRuneZ_four (by omega) (by omega)] at hz
          simp at hz
          omega
/-- None of the three signs. -/
def plainN (c : Nat) : Prop := c ≠ 60 ∧ c ≠ 38 ∧ c ≠ 27
theorem mark_plain {xs : List Nat} {k c : Nat} (hx : xs[k]? = some c) (hc : plainN c) : markT xs k = none := by
  have hlt := (List.getElem?_eq_some_iff.1 hx).1
  have hd : xs.drop k = c :: xs.drop (k + 1) := drop_cons hx
  have h1 : G.rdT (xs.drop k) = none := by
    rw [hd]
    unfold G.rdT
    split
    · rename_i d c' t e
      have e1 := (List.cons.inj e).1
      subst e1
      rw [if_pos hc.1]
    · rfl
  have h2 : readE xs (k : Int) = (0, 0) := by
    unfold readE
    rw [if_neg (by omega), if_neg]
    rw [show (k : Int).toNat = k by omega, List.getD_eq_getElem?_getD, hx]
    exact hc.2.1
  have h3 : (readT (xs.drop k)).size = 0 := by
    rw [hd]
    unfold readT
    simp only
    rw [if_neg hc.2.2]
    rfl
  unfold markT
  rw [h1]
  simp only
  rw [h2, h3]
  simp
theorem marks_plain {xs : List Nat} (h : ∀ c ∈ xs, plainN c) : ∀ (d k : Nat), xs.length - k = d → marksL xs k = []
  | 0, k, hd => marksL_end (by omega)
  | d + 1, k, hd => by
    have hk : k < xs.length := by omega
    rw [marksL_none hk (mark_plain (List.getElem?_eq_getElem hk) (h _ (List.getElem_mem hk)))]
    exact marks_plain h d (k + 1) (by omega)
theorem each_plain {xs : List Nat} (h : ∀ c ∈ xs, plainN c) : eachL xs = txs 0 xs.length := by
  unfold eachL
  rw [marks_plain h _ 0 rfl]
  rfl
theorem all_plain {xs : List Nat} (h : ∀ c ∈ xs, plainN c) : allI (bF xs) es0 (eachL xs) = textF xs.length (bF xs) 0 false false xs.length 0 false false := by
  rw [each_plain h]
  unfold txs
  by_cases h0 : 0 < xs.length
  · rw [if_pos h0]
    show ES.items es0 (bF xs) (txT 0 xs.length) ++ [] = _
    rw [List.append_nil]
    have e0 : ES.cs es0 (txT 0 xs.length) = ⟨0, 0, 0⟩ := by
      unfold ES.cs takeC
      rw [if_neg (by simp [txT])]
      rfl
    have e1 : ES.fs es0 (txT 0 xs.length) = false := by
      unfold ES.fs takeF
      simp [txT, es0]
    have e2 : ES.xs es0 (txT 0 xs.length) = false := by
      unfold ES.xs takeX
      simp [txT, es0]
    unfold ES.items
    rw [e0, e1, e2]
    unfold tkI
    rw [if_neg (Nat.lt_irrefl 0), if_pos (show (txT 0 xs.length).kind = 0 from rfl)]
    show textF (xs.length - 0) (fun j => bF xs (0 + j)) 0 (decide (0 < 0)) (decide (0 < 0)) (xs.length - 0) 0 false false = _
    simp only [Nat.sub_zero, Nat.zero_add, Nat.lt_irrefl, decide_false]
  · rw [if_neg h0]
    have : xs.length = 0 := by omega
    rw [this]
    rfl
theorem pieceS_more {m n b0 b1 b2 b3 c1 c2 c3 sz lo hi r : Nat} (h : S.M1.pieceS m b0 b1 b2 b3 sz lo hi = (r, m, true)) (hmn : m ≤ n) (e1 : 1 < m → c1 = b1) (e2 : 2 < m → c2 = b2) (e3 : 3 < m → c3 = b3) : S.M1.pieceS n b0 c1 c2 c3 sz lo hi = (r, m, true) := by
  unfold S.M1.pieceS at h
  split at h
  · rename_i k1
    split at h
    · rename_i k2
      simp at h
      obtain ⟨hr, rfl⟩ := h
      obtain rfl := e1 (by omega)
      unfold S.M1.pieceS
      rw [if_pos ⟨by omega, k1.2⟩, if_pos k2, hr]
    · rename_i k2
      split at h
      · rename_i k3
        split at h
        · rename_i k4
          simp at h
          obtain ⟨hr, rfl⟩ := h
          obtain rfl := e1 (by omega)
          obtain rfl := e2 (by omega)
          unfold S.M1.pieceS
          rw [if_pos ⟨by omega, k1.2⟩, if_neg k2, if_pos ⟨by omega, k3.2⟩, if_pos k4, hr]
        · rename_i k4
          split at h
          · rename_i k5
            simp at h
            obtain ⟨hr, rfl⟩ := h
            obtain rfl := e1 (by omega)
            obtain rfl := e2 (by omega)
            obtain rfl := e3 (by omega)
            unfold S.M1.pieceS
            rw [if_pos ⟨by omega, k1.2⟩, if_neg k2, if_pos ⟨by omega, k3.2⟩, if_neg k4, if_pos ⟨by omega, k5.2⟩, hr]
          · simp at h
      · simp at h
  · simp at h
theorem pieceB_more {m n b0 b1 b2 b3 c1 c2 c3 r : Nat} (h : S.M1.pieceB m b0 b1 b2 b3 = (r, m, true)) (hmn : m ≤ n) (e1 : 1 < m → c1 = b1) (e2 : 2 < m → c2 = b2) (e3 : 3 < m → c3 = b3) : S.M1.pieceB n b0 c1 c2 c3 = (r, m, true) := by
  unfold S.M1.pieceB at h ⊢
  split at h
  · rename_i k1
    rw [if_pos k1]
    exact h
  · rename_i k1
    split at h
    · simp at h
    · rename_i k2
      rw [if_neg k1, if_neg k2]
      exact pieceS_more h hmn e1 e2 e3
theorem putN_zb (r : Int) (j : Nat) : zb (encodeRuneZ r) j = (putN r).getD j 0 := by
  unfold zb putN
  rw [List.getD_eq_getElem?_getD, List.getD_eq_getElem?_getD, List.getElem?_map]
  cases (encodeRuneZ r)[j]? <;> rfl
/-- What is read where a number's bytes begin, whatever follows. -/
theorem pc_put (r : Int) (hv : Lib.validRune r = true) (n : Nat) (f : Nat → Nat) (hn : (putN r).length ≤ n) (hf : ∀ j, j < (putN r).length → f j = (putN r).getD j 0) : S.pc n f = (r.toNat, (putN r).length, true) := by
  have h := pc_enc r
  have hl : (putN r).length = (encodeRuneZ r).length := by unfold putN; rw [List.length_map]
  have hs : scR r = r := by unfold scR; rw [hv]; rfl
  have h1 := encodeRuneZ_length r
  rw [hs, ← hl] at h
  unfold S.pc at h ⊢
  have e : ∀ j, j < (putN r).length → S.bt n f j = S.bt (putN r).length (zb (encodeRuneZ r)) j := fun j hj => by
    unfold S.bt
    rw [if_pos (by omega), if_pos hj, hf j hj, putN_zb]
  rw [e 0 (by omega)]
  exact pieceB_more h hn (e 1) (e 2) (e 3)
/-- The bytes of numbers, one behind another. -/
def putL (l : List Int) : List Nat := l.flatMap putN
/-- Items with nothing about them. -/
def itemsP : Nat → List Int → List IT
  | _, [] => []
  | k, r :: t => ⟨r, (k : Int), ((putN r).length : Int), false, false, false, false⟩ :: itemsP (k + (putN r).length) t
theorem put_pos (r : Int) : 1 ≤ (putN r).length := by
  unfold putN
  rw [List.length_map]
  exact (encodeRuneZ_length r).1
theorem text_plain : ∀ (l : List Int) (pre : List Nat), (∀ r ∈ l, Lib.validRune r = true) → textF (pre ++ putL l).length (bF (pre ++ putL l)) 0 false false ((pre ++ putL l).length - pre.length) pre.length false false = itemsP pre.length l
  | [], pre, h => textF_end _ _ _ _ _ _ _ _ (by simp [putL]) _
  | r :: t, pre, h => by
    have hp := put_pos r
    have hL : pre ++ putL (r :: t) = (pre ++ putN r) ++ putL t := by simp [putL]
    have hk : pre.length < (pre ++ putL (r :: t)).length := by
      rw [hL]
      simp
      omega
    rw [textF_next _ _ _ _ _ _ _ _ hk]
    have hx : nxS (pre ++ putL (r :: t)).length (bF (pre ++ putL (r :: t))) pre.length = (r.toNat, (putN r).length, true) := by
      unfold nxS
      refine pc_put r (h r (List.mem_cons_self ..)) _ _ ?_ (fun j hj => ?_)
      · rw [hL]
        simp
      · unfold bF
        rw [hL, List.getD_eq_getElem?_getD, List.getD_eq_getElem?_getD, List.getElem?_append_left (by simp; omega), List.getElem?_append_right (by omega)]
        congr 2
        omega
    rw [hx]
    have hv := (valid_iff r).1 (h r (List.mem_cons_self ..))
    have ih := text_plain t (pre ++ putN r) (fun u hu => h u (List.mem_cons_of_mem _ hu))
    have hl2 : (pre ++ putN r).length = pre.length + (putN r).length := by simp
    rw [← hL, hl2] at ih
    show _ :: textF _ _ 0 false false (_ - (pre.length + (putN r).length)) (pre.length + (putN r).length) false false = _ :: itemsP (pre.length + (putN r).length) t
    rw [ih]
    congr 1
    rw [show ((r.toNat : Nat) : Int) = r by omega, show ((0 : Nat) : Int) + (pre.length : Int) = (pre.length : Int) by omega]
end Go.Proofs.YtojinnnpfjhifaaGreatDoor.K

namespace Go.Proofs.YtojinnnpfjhifaaGreatDoor.K
open Go.RowKit Go.Shelf Go.Lib Go.Maps
attribute [local irreducible] nmL ofN

theorem u8C_append (l m : List Nat) : u8C (l ++ m) = u8C l ++ u8C m := by simp [u8C]
/-- A slice of bytes more. -/
theorem wpList_appBs {ops : Array Oper} {rest : List Oper} {o : Oper} {a : Act} {w : World} {Q : Exit → Act → World → Prop} (hgd : o.guard = none) (s x : Operand)
    (ho : o.op = .call { callee := .builtin .append, args := #[s, x], argTypes := #[22, 22] }) (base : Nat) (v : Value) (l ys : List Nat) (hs : a.eval s = v) (hown : OwnB w base l v) (A : Option Addr) (m cap : Nat) (hm : ys.length = m)
    (hx : a.eval x = .slice A m cap) (hB : BY w w.heap.size ys A cap) (h63 : l.length + m ≤ 1000000) (hbase : base ≤ w.heap.size)
    (h : ∀ v' w', OwnB w' base (l ++ ys) v' → Below base w w' → wpList Tryz.prog ops Q rest (a.put o.dst v') w') : wpList Tryz.prog ops Q (o :: rest) a w := by
  obtain ⟨i, hi, hz, hs1, hb1⟩ := info_parts info5
  subst hm
  cases A with
  | none =>
    have hc := hB.z rfl
    subst hc
    have hy : ys = [] := List.eq_nil_of_length_eq_zero (by have := hB.l; omega)
    subst hy
    refine wpList_append_own_none hgd s x 22 ho base 5 i 1 Tryz.underlying22 hi v l.length (u8C l) hs hown hx ?_
    exact h v w (by rw [List.append_nil]; exact hown) (Below.refl _ _)
  | some ad =>
    obtain ⟨v', w', hr, h2, h3, _, _⟩ := run_append_own_at (P := Tryz.prog) w base 22 o.type 5 i (.int .u8 0) 1 1 Tryz.underlying22 hi hz hs1 hb1 rfl (by decide) v l.length (u8C l) hown ad ys.length cap (u8C ys) (by simp [u8C]) (fun j u hj => by
      unfold u8C at hj
      rw [List.getElem?_map] at hj
      cases e : ys[j]? with
      | none => rw [e] at hj; simp at hj
      | some y =>
        rw [e] at hj
        simp at hj
        subst hj
        obtain ⟨b, o', e2, _, hc⟩ := hB.at e
        simp only [Option.some.injEq] at e2
        subst e2
        unfold Addr.add
        by_cases h0 : j = 0
        · subst h0; simpa using hc
        · simpa [h0] using hc) (fun u hu => by
      simp [u8C] at hu
      obtain ⟨y, _, rfl⟩ := hu
      rfl) (by unfold maxLen; omega) (by omega) hbase
    refine wpList_plain hgd fun K hK => ?_
    unfold Oper.wp
    simp only [execOp, ho, resolve, invoke, builtin, Sem.run_bind, Sem.run_pure, Result.andThen_ok, List.map_toArray, List.map_cons, List.map_nil, hs, hx, hr]
    refine hK _ _ (h v' w' ?_ (below_grown' h3 hown hbase))
    unfold OwnB
    rw [List.length_append, u8C_append]
    exact h2
set_option maxHeartbeats 2000000 in
theorem rput_any (r : Int) (h0 : -2147483648 ≤ r) (h1 : r ≤ 2147483647) (w : World) : Calls Tryz.prog 10 #[.int .i32 r] w (PutOk w r) := by
  have C := rr_any r w
  by_cases hv : Lib.validRune r = true
  · obtain ⟨v0, v1, v2⟩ := (valid_iff r).1 hv
    rw [hv] at C
    have C := Lib.hid C
    by_cases c1 : r < 128
    · have HP := Lib.hid (rput_post r [r] (encodeRuneZ_one v0 (by omega)) w)
      clear v2 hv
      go_enter Tryz.func10, Tryz.ntmps10
      go_wp2_with fail
      refine C.out.mono ?_
      rintro e w1 ⟨rfl, rfl⟩
      go_wp2
      go_ret
      exact HP.out
    · have d1 : decide (r < 128) = false := by simpa using c1
      by_cases c2 : r < 2048
      · have HP := Lib.hid (rput_post r _ (encodeRuneZ_two (by omega) (by omega)) w)
        clear v2 hv c1
        go_enter Tryz.func10, Tryz.ntmps10
        go_wp2_with fail
        refine C.out.mono ?_
        rintro e w1 ⟨rfl, rfl⟩
        go_wp2
        go_ret
        exact HP.out
      · have d2 : decide (r < 2048) = false := by simpa using c2
        by_cases c3 : r < 65536
        · have HP := Lib.hid (rput_post r _ (encodeRuneZ_three (by omega)) w)
          clear v2 hv c1 c2
          go_enter Tryz.func10, Tryz.ntmps10
          go_wp2_with fail
          refine C.out.mono ?_
          rintro e w1 ⟨rfl, rfl⟩
          go_wp2
          go_ret
          exact HP.out
        · have d3 : decide (r < 65536) = false := by simpa using c3
          have HP := Lib.hid (rput_post r _ (encodeRuneZ_four (by omega) (by omega)) w)
          clear v2 hv c1 c2 c3
          go_enter Tryz.func10, Tryz.ntmps10
          go_wp2_with fail
          refine C.out.mono ?_
          rintro e w1 ⟨rfl, rfl⟩
          go_wp2
          go_ret
          exact HP.out
  · have e : scR r = 65533 := if_neg hv
    have hz : encodeRuneZ r = [239, 191, 189] := by rw [encZ_scR, e]; decide
    have HP := Lib.hid (rput_post r _ hz w)
    rw [Bool.eq_false_iff.2 hv] at C
    have C := Lib.hid C
    clear hv e hz
    go_enter Tryz.func10, Tryz.ntmps10
    go_wp2_with fail
    refine C.out.mono ?_
    rintro e w1 ⟨rfl, rfl⟩
    go_wp2
    go_ret
    exact HP.out

theorem enc_nat (r : Int) (j : Nat) (hj : j < (encodeRune r).length) : (putN r)[j]? = some ((encodeRune r)[j].toNat) := by
  have h1 := enc_f r j
  rw [putN_zb] at h1
  rw [List.getD_eq_getElem?_getD, List.getD_eq_getElem?_getD, List.getElem?_eq_getElem hj] at h1
  have hl : (putN r).length = (encodeRune r).length := by rw [enc_len2]; unfold putN; rw [List.length_map]
  rw [List.getElem?_eq_getElem (by omega)] at h1 ⊢
  simp at h1
  rw [h1]
/-- scalar.Put. -/
theorem sput_any (r : Int) (h0 : -2147483648 ≤ r) (h1 : r ≤ 2147483647) (w : World) : Calls Tryz.prog 21 #[.int .i32 r] w (PutOk w r) := by
  refine (S.put_any r h0 h1 w).mono ?_
  rintro e w' ⟨g, cap, rfl, hc, hle, hm, hg, hb⟩
  have hl : (putN r).length = (encodeRune r).length := by rw [enc_len2]; unfold putN; rw [List.length_map]
  refine ⟨some ⟨g, 0, none⟩, cap, by rw [hl], ⟨by rw [hl]; exact hle, hm, fun e => (by cases e), putN_lt r, fun _ => ⟨g, 0, rfl, hg, fun i x hx => ?_⟩⟩, hb⟩
  have hi : i < (encodeRune r).length := by
    have := (List.getElem?_eq_some_iff.1 hx).1
    omega
  rw [enc_nat r i hi] at hx
  cases hx
  rw [Nat.zero_add]
  exact hc i hi
end Go.Proofs.YtojinnnpfjhifaaGreatDoor.K

namespace Go.Proofs.YtojinnnpfjhifaaGreatDoor.K
open Go.RowKit Go.Shelf Go.Lib Go.Maps
attribute [local irreducible] nmL ofN

theorem putL_lt (l : List Int) : ∀ x ∈ putL l, x < 256 := fun x hx => by
  obtain ⟨r, _, h⟩ := List.mem_flatMap.1 hx
  exact putN_lt r x h
theorem putL_app (l m : List Int) : putL (l ++ m) = putL l ++ putL m := by simp [putL]
theorem putL_len : ∀ l : List Int, (putL l).length ≤ 4 * l.length
  | [] => Nat.zero_le _
  | r :: t => by
    have h1 := putL_len t
    have h2 := putN_len r
    show (putN r ++ putL t).length ≤ _
    rw [List.length_append, List.length_cons]
    omega
/-- The bytes of the first items. -/
def putK (l : List IT) (k : Nat) : List Nat := putL ((l.take k).map (·.r))
theorem putK_next {l : List IT} {k : Nat} {x : IT} (h : l[k]? = some x) : putK l (k + 1) = putK l k ++ putN x.r := by
  unfold putK
  rw [List.take_add_one, h, List.map_append, putL_app]
  simp [putL]
theorem putK_len (l : List IT) (k : Nat) : (putK l k).length ≤ 4 * k := by
  have h1 := putL_len ((l.take k).map (·.r))
  rw [List.length_map, List.length_take] at h1
  unfold putK
  omega
set_option maxRecDepth 100000 in
set_option maxHeartbeats 8000000 in
theorem text12_any (l : List IT) (A : Option Addr) (c : Nat) (w : World) (h : IsA w w.heap.size l A c) (hr : ∀ x ∈ l, -2147483648 ≤ x.r ∧ x.r ≤ 2147483647) (hl : l.length ≤ 10000) :
    Calls Tryz.prog 12 #[.slice A l.length c] w fun e w' => e = .returned (.string ⟨(u8s (putL (l.map (·.r)))).toArray⟩) ∧ Below w.heap.size w w' := by
  have hle := h.le
  have hmx := h.mx
  obtain ⟨n, hn⟩ : ∃ q, l.length = q := ⟨_, rfl⟩
  rw [hn] at hle hl ⊢
  obtain ⟨S5, hS5⟩ : ∃ q : ByteArray, (⟨(u8s (putL (l.map (·.r)))).toArray⟩ : ByteArray) = q := ⟨_, rfl⟩
  rw [hS5]
  have HH := Lib.hid (And.intro h (And.intro hr (And.intro hn hl)))
  have HS := Lib.hid hS5
  clear h hr hn hl hS5
  go_enter Tryz.func12, Tryz.ntmps12
  go_wp2_with fail
  go_loopw [3, 5, 8] (fun o _ i wr => ∃ k : Nat, k ≤ n ∧ i = .int .i64 (k : Int) ∧ OwnB wr w.heap.size (putK l k) o ∧ Below w.heap.size w wr) (fun _ _ i _ => n - (RowKit.intOf i).toNat)
  case atStart => exact ⟨0, Nat.zero_le _, rfl, ownB_nil _ _, Below.refl _ _⟩
  case round =>
    obtain ⟨k, hk, rfl, ho, hb⟩ := hrel
    by_cases hkn : k < n
    case pos =>
      have i1 : (k : Int) < (n : Int) := by omega
      have ik : (k : Int) ≤ 100000 := by have := HH.out.2.2.2; omega
      obtain ⟨x, hx⟩ : ∃ x, l[k]? = some x := ⟨_, List.getElem?_eq_getElem (by rw [HH.out.2.2.1]; exact hkn)⟩
      have hxr := HH.out.2.1 x (List.mem_of_getElem? hx)
      have hpk := putK_next hx
      obtain ⟨b, o, rfl, hbb, a0, a1, a2, a3, a4, a5, a6⟩ := isA_cells ((HH.out.1.below hb).mono (Nat.le_refl _)) hx
      obtain ⟨xr, xa, xz, xf, xx, xn, xp⟩ := x
      simp only at a0 a1 a2 a3 a4 a5 a6 hxr hpk
      have aa1 : wr.cell? ⟨b, o + (k * 7 + 1), none⟩ = some (.int .i64 xa) := by rw [← Nat.add_assoc]; exact a1
      have aa2 : wr.cell? ⟨b, o + (k * 7 + 2), none⟩ = some (.int .i64 xz) := by rw [← Nat.add_assoc]; exact a2
      have aa3 : wr.cell? ⟨b, o + (k * 7 + 3), none⟩ = some (.bool xf) := by rw [← Nat.add_assoc]; exact a3
      have aa4 : wr.cell? ⟨b, o + (k * 7 + 4), none⟩ = some (.bool xx) := by rw [← Nat.add_assoc]; exact a4
      have aa5 : wr.cell? ⟨b, o + (k * 7 + 5), none⟩ = some (.bool xn) := by rw [← Nat.add_assoc]; exact a5
      have aa6 : wr.cell? ⟨b, o + (k * 7 + 6), none⟩ = some (.bool xp) := by rw [← Nat.add_assoc]; exact a6
      have t8 := cells_new wr #[.int .i32 xr, .int .i64 xa, .int .i64 xz, .bool xf, .bool xx, .bool xn, .bool xp] 42
      have b8 := below_new wr (.cells #[.int .i32 xr, .int .i64 xa, .int .i64 xz, .bool xf, .bool xx, .bool xn, .bool xp] 42)
      obtain ⟨W8, hW8⟩ : ∃ V, wr.alloc (.cells #[.int .i32 xr, .int .i64 xa, .int .i64 xz, .bool xf, .bool xx, .bool xn, .bool xp] 42) = V := ⟨_, rfl⟩
      rw [hW8] at t8 b8
      have y0 : W8.cell? ⟨wr.heap.size, 0, none⟩ = some (.int .i32 xr) := t8.cell 0
      have C := sput_any xr hxr.1 hxr.2 W8
      have HK := Lib.hid (And.intro hW8 (And.intro (ho.below b8) (And.intro (hb.trans (b8.mono hb.size)) hpk)))
      clear ho hb hx hxr hpk hbb t8 b8 hW8
      go_upto_region 5 with fail
      rw [HK.out.1]
      clear a0 a1 a2 a3 a4 a5 a6 aa1 aa2 aa3 aa4 aa5 aa6
      go_wp2_with fail
      refine C.mono ?_
      rintro e w5 ⟨A5, c5, rfl, hB5, b5⟩
      have own5 := HK.out.2.1.below b5
      have b15 : Below w.heap.size w w5 := HK.out.2.2.1.trans (b5.mono HK.out.2.2.1.size)
      have H5 := Lib.hid (And.intro own5 (And.intro hB5 (And.intro b15 (show (putK l k).length + (putN xr).length ≤ 1000000 by
        have h1 := putK_len l k
        have h2 := putN_len xr
        have h3 := HH.out.2.2.2
        omega))))
      obtain ⟨P, hP⟩ : ∃ q, (putN xr).length = q := ⟨_, rfl⟩
      have HP := Lib.hid hP
      rw [hP]
      clear own5 hB5 b15 b5 C y0 hP
      go_wp2_with (at_builtin; refine wpList_appBs rfl (.tmp 12) (.tmp 15) rfl w.heap.size _ (putK l k) (putN xr) rfl H5.out.1 A5 P c5 HP.out rfl H5.out.2.1 (by rw [← HP.out]; exact H5.out.2.2.2) H5.out.2.2.1.size ?_)
      intro v' w6 o6 b6
      have hend : ∃ j : Nat, j ≤ n ∧ Value.int .i64 ((k : Int) + 1) = .int .i64 (j : Int) ∧ OwnB w6 w.heap.size (putK l j) v' ∧ Below w.heap.size w w6 := ⟨k + 1, by omega, by simp, by rw [HK.out.2.2.2]; exact o6, H5.out.2.2.1.trans b6⟩
      have HEND := Lib.hid hend
      clear hend o6 b6
      go_wp2_with fail
      go_roundw
      case rel => exact HEND.out
      case measure => simp [RowKit.intOf]; omega
    case neg =>
      obtain rfl : k = n := by omega
      have i1 : ¬ (k : Int) < (k : Int) := by omega
      have hkk : putK l k = putL (l.map (·.r)) := by
        unfold putK
        rw [List.take_of_length_le (by rw [HH.out.2.2.1]; exact Nat.le_refl _)]
      rw [hkk] at ho
      obtain ⟨A5, c5, rfl, hB5⟩ := OwnB.by ho (putL_lt _)
      have hcv := conv_by hB5
      obtain ⟨P, hP⟩ : ∃ q, (putL (l.map (·.r))).length = q := ⟨_, rfl⟩
      rw [HS.out, hP] at hcv
      rw [hP]
      have HZ := Lib.hid hb
      clear hb ho hB5 hkk hkn hk hP
      go_wp2_with fail
      go_ret
      exact ⟨rfl, HZ.out⟩
end Go.Proofs.YtojinnnpfjhifaaGreatDoor.K

namespace Go.Proofs.YtojinnnpfjhifaaGreatDoor.K
open Go.RowKit Go.Shelf Go.Lib Go.Maps
attribute [local irreducible] nmL ofN

/-- Runes somewhere. -/
structure RN (w : World) (B : Nat) (xs : List Int) (A : Option Addr) (cap : Nat) : Prop where
  le : xs.length ≤ cap
  mx : cap ≤ maxLen
  i : ∀ x ∈ xs, -2147483648 ≤ x ∧ x ≤ 2147483647
  r : ∀ (i : Nat) (x : Int), xs[i]? = some x → ∃ b o, A = some ⟨b, o, none⟩ ∧ b < B ∧ w.cell? ⟨b, o + i, none⟩ = some (.int .i32 x)
theorem RN.below {w w' : World} {B : Nat} {xs : List Int} {A : Option Addr} {cap : Nat} (h : RN w B xs A cap) (hb : Below B w w') : RN w' B xs A cap :=
  ⟨h.le, h.mx, h.i, fun i x hx => by
    obtain ⟨b, o, e, h1, h2⟩ := h.r i x hx
    exact ⟨b, o, e, h1, (hb.cell (p := ⟨b, _, none⟩) h1).trans h2⟩⟩
/-- A number that the law lets by. -/
def goodR (r : Int) : Prop := Lib.validRune r = true ∧ r ≠ 60 ∧ r ≠ 38 ∧ r ≠ 27
theorem putL_plain (l : List Int) (h : ∀ r ∈ l, goodR r) : ∀ c ∈ putL l, plainN c := fun c hc => by
  obtain ⟨r, hr, h1⟩ := List.mem_flatMap.1 hc
  have h2 := h r hr
  exact ⟨putN_ne (c := 60) (by omega) (fun e => h2.2.1 (by omega)) c h1, putN_ne (c := 38) (by omega) (fun e => h2.2.2.1 (by omega)) c h1, putN_ne (c := 27) (by omega) (fun e => h2.2.2.2 (by omega)) c h1⟩
theorem itemsP_len : ∀ (l : List Int) (k : Nat), (itemsP k l).length = l.length
  | [], k => rfl
  | r :: t, k => by
    show (itemsP (k + (putN r).length) t).length + 1 = t.length + 1
    rw [itemsP_len t]
theorem itemsP_r : ∀ (l : List Int) (k : Nat), (itemsP k l).map (·.r) = l
  | [], k => rfl
  | r :: t, k => by
    show r :: (itemsP (k + (putN r).length) t).map (·.r) = _
    rw [itemsP_r t]
theorem itemsP_at : ∀ (l : List Int) (k i : Nat) (x : Int), l[i]? = some x → (itemsP k l)[i]? = some ⟨x, ((k + (putL (l.take i)).length : Nat) : Int), ((putN x).length : Int), false, false, false, false⟩
  | [], k, i, x, h => by simp at h
  | r :: t, k, 0, x, h => by
    simp at h
    subst h
    simp [itemsP, putL]
  | r :: t, k, i + 1, x, h => by
    have ih := itemsP_at t (k + (putN r).length) i x (by simpa using h)
    show (itemsP (k + (putN r).length) t)[i]? = _
    rw [ih, show (r :: t).take (i + 1) = r :: t.take i from rfl, show putL (r :: t.take i) = putN r ++ putL (t.take i) from by simp [putL], List.length_append, Nat.add_assoc]
theorem all_items (l : List Int) (h : ∀ r ∈ l, goodR r) : allI (bF (putL l)) es0 (eachL (putL l)) = itemsP 0 l := by
  rw [all_plain (putL_plain l h)]
  exact text_plain l [] (fun r hr => (h r hr).1)
theorem putT_next {l : List Int} {k : Nat} {x : Int} (h : l[k]? = some x) : putL (l.take (k + 1)) = putL (l.take k) ++ putN x := by
  rw [List.take_add_one, h, putL_app]
  simp [putL]
theorem putT_len (l : List Int) (k : Nat) : (putL (l.take k)).length ≤ 4 * k := by
  have h1 := putL_len (l.take k)
  rw [List.length_take] at h1
  omega
set_option maxRecDepth 100000 in
set_option maxHeartbeats 8000000 in
theorem plainLaw (xs : List Int) (A : Option Addr) (cap : Nat) (w : World) (hb : RN w w.heap.size xs A cap) (hM : G.MX w) (hT : S.Tabs w) :
    Calls Tryz.prog 6 #[.slice A xs.length cap] w fun e w' => e = .returned (.bool true) ∧ Below w.heap.size w w' := by
  have CW := xawake_any w hM hT
  have hcap := hb.le
  have hmx := hb.mx
  by_cases hl : xs.length ≤ 60
  case neg =>
    obtain ⟨N, hN⟩ : ∃ q, xs.length = q := ⟨_, rfl⟩
    rw [hN] at hcap hl ⊢
    have i0 : (60 : Int) < (N : Int) := by omega
    have HC := Lib.hid CW
    clear CW hb hM hT hN hl
    go_enter Tryz.func6, Tryz.ntmps6
    go_wp2_with fail
    refine HC.out.mono ?_
    rintro e w1 ⟨rfl, b1⟩
    go_wp2_with fail
    go_ret
    exact ⟨rfl, b1⟩
  obtain ⟨N, hN⟩ : ∃ q, xs.length = q := ⟨_, rfl⟩
  rw [hN] at hcap hl ⊢
  have i0 : ¬ (60 : Int) < (N : Int) := by omega
  have HH := Lib.hid (And.intro hb (And.intro hM (And.intro hT (And.intro hN hl))))
  clear hb hM hT hN hl
  go_enter Tryz.func6, Tryz.ntmps6
  go_wp2_with fail
  refine CW.mono ?_
  rintro e w1 ⟨rfl, b1⟩
  clear CW
  have H1 := Lib.hid b1
  clear b1
  go_wp2_with fail
  go_loopw [3, 4] (fun o i wr => ∃ k : Nat, k ≤ N ∧ i = .int .i64 (k : Int) ∧ OwnB wr w1.heap.size (putL (xs.take k)) o ∧ (∀ r ∈ xs.take k, goodR r) ∧ Below w1.heap.size w1 wr) (fun _ i _ => N - (RowKit.intOf i).toNat)
  case atStart => exact ⟨0, Nat.zero_le _, rfl, ownB_nil _ _, fun r hr => by simp at hr, Below.refl _ _⟩
  case round =>
    obtain ⟨k, hk, rfl, ho, hg, hb⟩ := hrel
    by_cases hkn : k < N
    case pos =>
      have i1 : (k : Int) < (N : Int) := by omega
      have ik : (k : Int) ≤ 100000 := by have := HH.out.2.2.2.2; omega
      obtain ⟨x, hx⟩ : ∃ x, xs[k]? = some x := ⟨_, List.getElem?_eq_getElem (by rw [HH.out.2.2.2.1]; exact hkn)⟩
      have hxr := HH.out.1.i x (List.mem_of_getElem? hx)
      have bw : Below w.heap.size w wr := H1.out.trans (hb.mono H1.out.size)
      obtain ⟨b, o, rfl, hbb, a0⟩ := (HH.out.1.below bw).r k x hx
      have HB := Lib.hid (And.intro ho (And.intro hg (And.intro hb bw)))
      have HX := Lib.hid hx
      clear ho hg hb bw hx hbb
      by_cases q1 : x = 60
      · subst q1
        go_wp2_with fail
        go_ret
        exact ⟨rfl, HB.out.2.2.2⟩
      by_cases q2 : x = 38
      · subst q2
        go_wp2_with fail
        go_ret
        exact ⟨rfl, HB.out.2.2.2⟩
      by_cases q3 : x = 27
      · subst q3
        go_wp2_with fail
        go_ret
        exact ⟨rfl, HB.out.2.2.2⟩
      have d1 : (x == 60) = false := by simpa using q1
      have d2 : (x == 38) = false := by simpa using q2
      have d3 : (x == 27) = false := by simpa using q3
      have CR := rr_any x wr
      obtain ⟨V, hV⟩ : ∃ q, Lib.validRune x = q := ⟨_, rfl⟩
      rw [hV] at CR
      have HQ := Lib.hid (And.intro q1 (And.intro q2 (And.intro q3 (And.intro hV hxr))))
      clear q1 q2 q3 hV hxr
      cases V
      · go_wp2_with fail
        refine CR.mono ?_
        rintro e _ ⟨rfl, rfl⟩
        go_wp2_with fail
        go_ret
        exact ⟨rfl, HB.out.2.2.2⟩
      · have CP := rput_any x HQ.out.2.2.2.2.1 HQ.out.2.2.2.2.2 wr
        go_wp2_with fail
        refine CR.mono ?_
        rintro e _ ⟨rfl, rfl⟩
        clear CR
        go_wp2_with fail
        refine CP.mono ?_
        rintro e w5 ⟨A5, c5, rfl, hB5, b5⟩
        have own5 := HB.out.1.below b5
        have b15 : Below w1.heap.size w1 w5 := HB.out.2.2.1.trans (b5.mono HB.out.2.2.1.size)
        have H5 := Lib.hid (And.intro own5 (And.intro hB5 (And.intro b15 (show (putL (xs.take k)).length + (putN x).length ≤ 1000000 by
          have h1 := putT_len xs k
          have h2 := putN_len x
          omega))))
        obtain ⟨P, hP⟩ : ∃ q, (putN x).length = q := ⟨_, rfl⟩
        have HP := Lib.hid hP
        rw [hP]
        clear own5 hB5 b15 b5 CP a0 hP
        go_wp2_with (at_builtin; refine wpList_appBs rfl (.tmp 50) (.tmp 55) rfl w1.heap.size _ (putL (xs.take k)) (putN x) rfl H5.out.1 A5 P c5 HP.out rfl H5.out.2.1 (by rw [← HP.out]; exact H5.out.2.2.2) H5.out.2.2.1.size ?_)
        intro v' w6 o6 b6
        have hend : ∃ j : Nat, j ≤ N ∧ Value.int .i64 ((k : Int) + 1) = .int .i64 (j : Int) ∧ OwnB w6 w1.heap.size (putL (xs.take j)) v' ∧ (∀ r ∈ xs.take j, goodR r) ∧ Below w1.heap.size w1 w6 := by
          refine ⟨k + 1, by omega, by simp, by rw [putT_next HX.out]; exact o6, fun r hr => ?_, H5.out.2.2.1.trans b6⟩
          rw [List.take_add_one, HX.out] at hr
          rcases List.mem_append.1 hr with hr | hr
          · exact HB.out.2.1 r hr
          · simp at hr
            subst hr
            exact ⟨HQ.out.2.2.2.1, HQ.out.1, HQ.out.2.1, HQ.out.2.2.1⟩
        have HEND := Lib.hid hend
        clear hend o6 b6
        go_wp2_with fail
        go_roundw
        case rel => exact HEND.out
        case measure => simp [RowKit.intOf]; omega
    case neg =>
      obtain rfl : k = N := by omega
      have i1 : ¬ (k : Int) < (k : Int) := by omega
      rw [List.take_of_length_le (show xs.length ≤ k by rw [HH.out.2.2.2.1]; exact Nat.le_refl _)] at ho hg
      have bw : Below w.heap.size w wr := H1.out.trans (hb.mono H1.out.size)
      obtain ⟨A3, c3, rfl, hB3⟩ := OwnB.by ho (putL_lt _)
      have hpl : (putL xs).length ≤ 240 := by
        have h1 := putL_len xs
        have h2 := HH.out.2.2.2
        omega
      have CG := xall_any (putL xs) A3 c3 wr hB3 (by omega) (HH.out.2.1.on HH.out.2.1.pos bw) (HH.out.2.2.1.below bw (by have := HH.out.2.2.1.2; omega))
      rw [all_items xs hg] at CG
      obtain ⟨ITS, hITS⟩ : ∃ q, itemsP 0 xs = q := ⟨_, rfl⟩
      rw [hITS] at CG
      have hil : ITS.length = k := by rw [← hITS, itemsP_len, HH.out.2.2.2.1]
      have hit : ∀ (i : Nat) (x : Int), xs[i]? = some x → ITS[i]? = some ⟨x, ((0 + (putL (xs.take i)).length : Nat) : Int), ((putN x).length : Int), false, false, false, false⟩ := fun i x h => by
        rw [← hITS]
        exact itemsP_at xs 0 i x h
      have hir : ITS.map (·.r) = xs := by rw [← hITS, itemsP_r]
      have hc3 := hB3.l
      have hm3 := hB3.m
      obtain ⟨Q, hQ⟩ : ∃ q, (putL xs).length = q := ⟨_, rfl⟩
      rw [hQ] at CG hc3 hpl ⊢
      have H3 := Lib.hid (And.intro hB3 (And.intro bw (And.intro hil (And.intro hit (And.intro hir hQ)))))
      clear ho hg hb bw hB3 hITS hil hit hir hQ hkn hk
      go_wp2_with fail
      refine CG.mono ?_
      rintro e w5 ⟨v, rfl, ho5, b5⟩
      obtain ⟨A6, c6, rfl, hI6⟩ := IsA.of_own ho5
      have hc6 := hI6.le
      have hm6 := hI6.mx
      rw [H3.out.2.2.1] at hc6 ⊢
      have H5 := Lib.hid (And.intro hI6 (And.intro (H3.out.2.1.trans (b5.mono H3.out.2.1.size)) (H3.out.1.on b5)))
      clear CG ho5 hI6 b5
      go_wp2_with fail
      go_loopw [6, 7, 8] (fun a i _ wr => ∃ j : Nat, j ≤ k ∧ i = .int .i64 (j : Int) ∧ a = .int .i64 ((putL (xs.take j)).length : Int) ∧ Below w5.heap.size w5 wr) (fun _ i _ _ => k - (RowKit.intOf i).toNat)
      case atStart => exact ⟨0, Nat.zero_le _, rfl, rfl, Below.refl _ _⟩
      case round =>
        obtain ⟨j, hj, rfl, rfl, hb⟩ := hrel
        by_cases hjk : j < k
        case pos =>
          have i2 : (j : Int) < (k : Int) := by omega
          have ij : (j : Int) ≤ 100000 := by have := HH.out.2.2.2.2; omega
          obtain ⟨x, hx⟩ : ∃ x, xs[j]? = some x := ⟨_, List.getElem?_eq_getElem (by rw [HH.out.2.2.2.1]; exact hjk)⟩
          have hxr := HH.out.1.i x (List.mem_of_getElem? hx)
          have bw : Below w.heap.size w wr := H5.out.2.1.trans (hb.mono H5.out.2.1.size)
          have hnx := putT_next hx
          obtain ⟨b, o, rfl, hbb, a0⟩ := (HH.out.1.below bw).r j x hx
          have CP := rput_any x hxr.1 hxr.2 wr
          have hT4 := putT_len xs j
          have hT5 := putN_len x
          obtain ⟨T, hT⟩ : ∃ q, (putL (xs.take j)).length = q := ⟨_, rfl⟩
          obtain ⟨P, hP⟩ : ∃ q, (putN x).length = q := ⟨_, rfl⟩
          rw [hT] at hT4
          rw [hP] at hT5
          rw [hT]
          have iT : (T : Int) ≤ 100000 := by omega
          have iP : (P : Int) ≤ 100000 := by omega
          have hxi := H3.out.2.2.2.1 j x hx
          rw [hT, hP, Nat.zero_add] at hxi
          have HB := Lib.hid (And.intro hb (And.intro bw (And.intro hxi (And.intro hnx (And.intro hT hP)))))
          have HX := Lib.hid hx
          clear hb bw hxi hnx hT hP hx hbb hxr hT4 hT5
          go_wp2_with fail
          refine CP.mono ?_
          rintro e w7 ⟨A7, c7, rfl, hB7, b7⟩
          have b57 : Below w5.heap.size w5 w7 := HB.out.1.trans (b7.mono HB.out.1.size)
          clear a0 CP hB7
          rw [HB.out.2.2.2.2.2]
          obtain ⟨b', o', e', _, a0⟩ := (HH.out.1.below (H5.out.2.1.trans (b57.mono H5.out.2.1.size))).r j x HX.out
          cases e'
          obtain ⟨b1, o1, rfl, hb1, m0, m1, m2, m3, m4, m5, m6⟩ := isA_cells (H5.out.1.below b57) HB.out.2.2.1
          simp only at m0 m1 m2 m3 m4 m5 m6
          have n1 : w7.cell? ⟨b1, o1 + (j * 7 + 1), none⟩ = some (.int .i64 (T : Int)) := by rw [← Nat.add_assoc]; exact m1
          have n2 : w7.cell? ⟨b1, o1 + (j * 7 + 2), none⟩ = some (.int .i64 (P : Int)) := by rw [← Nat.add_assoc]; exact m2
          have n3 : w7.cell? ⟨b1, o1 + (j * 7 + 3), none⟩ = some (.bool false) := by rw [← Nat.add_assoc]; exact m3
          have n4 : w7.cell? ⟨b1, o1 + (j * 7 + 4), none⟩ = some (.bool false) := by rw [← Nat.add_assoc]; exact m4
          have n5 : w7.cell? ⟨b1, o1 + (j * 7 + 5), none⟩ = some (.bool false) := by rw [← Nat.add_assoc]; exact m5
          have n6 : w7.cell? ⟨b1, o1 + (j * 7 + 6), none⟩ = some (.bool false) := by rw [← Nat.add_assoc]; exact m6
          have H7 := Lib.hid b57
          clear b57 b7 hb1
          go_upto_region 18 with fail
          go_quiet (fail)
          have hend : ∃ i : Nat, i ≤ k ∧ Value.int .i64 ((j : Int) + 1) = .int .i64 (i : Int) ∧ Value.int .i64 ((T : Int) + (P : Int)) = .int .i64 ((putL (xs.take i)).length : Int) ∧ Below w5.heap.size w5 (w7.drewN nq) := by
            refine ⟨j + 1, by omega, by simp, ?_, below_drewN H7.out nq⟩
            rw [HB.out.2.2.2.1, List.length_append, HB.out.2.2.2.2.1, HB.out.2.2.2.2.2]
            simp
          have HEND := Lib.hid hend
          clear hend
          go_wp2_with fail
          go_roundw
          case rel => exact HEND.out
          case measure => simp [RowKit.intOf]; omega
        case neg =>
          obtain rfl : j = k := by omega
          have i2 : ¬ (j : Int) < (j : Int) := by omega
          have bd : Below wr.heap.size wr { wr with drawn := wr.drawn + 1 } := ⟨rfl, rfl, rfl, Nat.le_refl _, fun _ _ => rfl⟩
          have hI := ((H5.out.1.below hb).mono hb.size).on bd
          have hBq := H5.out.2.2.on hb
          have CT := text12_any ITS A6 c6 { wr with drawn := wr.drawn + 1 } hI (fun x hx => by
            have h1 : x.r ∈ xs := by
              rw [← H3.out.2.2.2.2.1]
              exact List.mem_map_of_mem hx
            exact HH.out.1.i _ h1) (by have h1 := H3.out.2.2.1; have h2 := HH.out.2.2.2.2; omega)
          rw [H3.out.2.2.2.2.1, H3.out.2.2.1] at CT
          obtain ⟨SS, hSS⟩ : ∃ q : ByteArray, (⟨(u8s (putL xs)).toArray⟩ : ByteArray) = q := ⟨_, rfl⟩
          rw [hSS] at CT
          have hcv : ∀ p : Later (fun _ => False) wr, (convert 22 9 (.slice A3 Q c3)).run Tryz.prog p.W = .ok (.string SS) p.W := fun p => by
            have h1 := conv_by (hBq.on (p.h.below (Nat.le_refl _) (fun _ _ hf => hf)))
            rw [hSS, H3.out.2.2.2.2.2] at h1
            exact h1
          obtain ⟨T, hT⟩ : ∃ q, (putL (xs.take j)).length = q := ⟨_, rfl⟩
          rw [hT]
          have HZ := Lib.hid (And.intro (H5.out.2.1.trans (hb.mono H5.out.2.1.size)) hb)
          have HCT := Lib.hid CT
          clear hb bd hI hBq CT hSS hT hjk hj
          go_upto_region 21 with fail
          refine wp_region_mixF (fun i => if i = 1 then 2 else if 3 ≤ i then 2 else 0) [0, 2] 4 (fun w' => ∃ p : Later (fun _ => False) wr, w' = p.W) (by kernel_rfl) (by kernel_rfl) ⟨⟨_, Fz.drew wr⟩, rfl⟩ ?_
          simp only [opsAt, List.filterMap_cons, List.filterMap_nil, List.getElem?_toArray, List.getElem?_cons_zero, List.getElem?_cons_succ]
          change wpQuiet _ _ _ _ [_, _] _
          repeat (go_big_quiet_step (fail))
          refine wpQuiet_nil ?_
          have hc0 : (convert 22 9 (.slice A3 Q c3)).run Tryz.prog wr.drew = .ok (.string SS) wr.drew := hcv ⟨_, Fz.drew wr⟩
          refine wpFreeM_step [1, 3] (by kernel_rfl) ⟨?_, ?_, trivial⟩
          · refine wpOp_of_list rfl ?_
            go_wp2_with fail
            refine HCT.out.mono ?_
            rintro e w7 ⟨rfl, b7⟩
            have z7 : Fz (fun _ => False) wr w7 := (Fz.drew wr).trans (Fz.of_below b7)
            have b8 : Below w.heap.size w w7 := HZ.out.1.trans (z7.below HZ.out.1.size (fun _ _ hf => hf))
            have hc7 : (convert 22 9 (.slice A3 Q c3)).run Tryz.prog w7 = .ok (.string SS) w7 := hcv ⟨w7, z7⟩
            have H7 := Lib.hid (And.intro z7 b8)
            clear z7 b8 b7
            go_wp2_with fail
            refine ⟨⟨⟨_, H7.out.1⟩, rfl⟩, ?_⟩
            refine wpFreeM_step [3] (by kernel_rfl) ⟨?_, trivial⟩
            refine wpOp_of_list rfl ?_
            go_wp2_with fail
            refine ⟨⟨⟨_, H7.out.1⟩, rfl⟩, ?_⟩
            refine wpFreeM_step [4] (by kernel_rfl) ⟨?_, trivial⟩
            refine wpOp_of_list rfl ?_
            go_wp2_with fail
            refine ⟨⟨⟨_, H7.out.1⟩, rfl⟩, ?_⟩
            refine wpFreeM_step [5] (by kernel_rfl) ⟨?_, trivial⟩
            refine wpOp_of_list rfl ?_
            go_wp2_with fail
            refine ⟨⟨⟨_, H7.out.1⟩, rfl⟩, ?_⟩
            unfold wpFreeM
            go_wp2_with fail
            go_ret
            exact ⟨by simp, H7.out.2⟩
          · refine wpOp_of_list rfl ?_
            go_wp2_with fail
            refine ⟨⟨⟨_, Fz.drew wr⟩, rfl⟩, ?_⟩
            refine wpFreeM_step [1] (by kernel_rfl) ⟨?_, trivial⟩
            refine wpOp_of_list rfl ?_
            go_wp2_with fail
            refine HCT.out.mono ?_
            rintro e w7 ⟨rfl, b7⟩
            have z7 : Fz (fun _ => False) wr w7 := (Fz.drew wr).trans (Fz.of_below b7)
            have b8 : Below w.heap.size w w7 := HZ.out.1.trans (z7.below HZ.out.1.size (fun _ _ hf => hf))
            have hc7 : (convert 22 9 (.slice A3 Q c3)).run Tryz.prog w7 = .ok (.string SS) w7 := hcv ⟨w7, z7⟩
            have H7 := Lib.hid (And.intro z7 b8)
            clear z7 b8 b7
            go_wp2_with fail
            refine ⟨⟨⟨_, H7.out.1⟩, rfl⟩, ?_⟩
            refine wpFreeM_step [4] (by kernel_rfl) ⟨?_, trivial⟩
            refine wpOp_of_list rfl ?_
            go_wp2_with fail
            refine ⟨⟨⟨_, H7.out.1⟩, rfl⟩, ?_⟩
            refine wpFreeM_step [5] (by kernel_rfl) ⟨?_, trivial⟩
            refine wpOp_of_list rfl ?_
            go_wp2_with fail
            refine ⟨⟨⟨_, H7.out.1⟩, rfl⟩, ?_⟩
            unfold wpFreeM
            go_wp2_with fail
            go_ret
            exact ⟨by simp, H7.out.2⟩
end Go.Proofs.YtojinnnpfjhifaaGreatDoor.K

namespace Go.Proofs.YtojinnnpfjhifaaGreatDoor
open Go.ChangeShapes Go.WideShapes Go.ChangeAt Go.RowKit Go.Shelf
open Go.Lib

theorem cells21 : Tryz.prog.cellsOf 21 = 1 := by kernel_rfl
set_option maxRecDepth 100000 in
theorem rn_of_arg {H : Type} {enc : TypeId × Value → H} {W : World} {b0 : Nat} {v : Value} {d : DataW H} {p : List MemPlace} (hv : Value.okWide Tryz.prog W .any b0 45 v) (h : DataW.Trod enc Tryz.prog W 0 (fun _ => true) true 45 v d p) :
    ∃ (xs : List Int) (A : Option Addr) (cap : Nat), v = .slice A xs.length cap ∧ K.RN W W.heap.size xs A cap := by
  obtain ⟨a, len, cap, rfl⟩ := okWide_slice Tryz.underlying45 hv
  obtain ⟨fuel, hf⟩ := h
  rcases open_ints Tryz.underlying45 Tryz.underlying21 cells21 hf with ⟨hcs, _⟩ | ⟨x, l, c, zs, hcs, _, hl, hm, hz, _, hcell, hwz⟩
  · simp [Value.cells] at hcs
    obtain ⟨rfl, rfl, rfl⟩ := hcs
    exact ⟨[], none, 0, rfl, ⟨Nat.le_refl _, Nat.zero_le _, fun x hx => absurd hx (by simp), fun i x hx => by simp at hx⟩⟩
  · simp [Value.cells] at hcs
    obtain ⟨rfl, rfl, rfl⟩ := hcs
    have hz : zs.length = cap := by simpa using hz
    have hlen : (zs.take len).length = len := by simp; omega
    refine ⟨zs.take len, some x, cap, by rw [hlen], ⟨by rw [hlen]; exact hl, hm, fun y hy => ?_, fun i y hy => ?_⟩⟩
    · have := hwz y (List.mem_of_mem_take hy)
      simp [Lit.wf, IntKind.min, IntKind.max, IntKind.signed, IntKind.bits] at this
      omega
    · have hi : i < len := by have := (List.getElem?_eq_some_iff.1 hy).1; omega
      have hc := hcell 0 (by omega)
      obtain ⟨b, off, spot⟩ := x
      have hspot : spot = none := by simpa [Addr.add] using World.cell?_spot hc
      subst hspot
      have hc0 : W.cell? ⟨b, off, none⟩ = some (.int .i32 (zs.getD 0 0)) := by simpa [Addr.add] using hc
      refine ⟨b, off, rfl, block_lt_of_cell hc0, ?_⟩
      have hci := hcell i (by omega)
      rw [Addr.add_lit] at hci
      rw [List.getElem?_take, if_pos hi] at hy
      rw [getD_ofI hy] at hci
      exact hci
end Go.Proofs.YtojinnnpfjhifaaGreatDoor

namespace Go.Proofs.YtojinnnpfjhifaaGreatDoor
open Go.ChangeShapes Go.WideShapes Go.ChangeAt Go.RowKit Go.Shelf
open Go.Lib
open Go.ChangeMaps (open_string shut_string)

set_option maxRecDepth 100000 in
theorem extractPlain_lifted (os : Os) (started : os.Started) (H : Type) (enc : TypeId × Value → H) :
    ReturnsInHanded {} Tryz.checked os 6 .any (fun w args => (Rows.extractPlainSpec.pre enc Tryz.prog Tryz.f6 [] false w args ∧ laidMetH Tryz.prog laidAll7 w) ∧ sizedMet enc Tryz.prog Tryz.f6 (OpenSpec.ofChange Rows.extractPlainSpec) false w args)
      (Rows.extractPlainSpec.post enc Tryz.prog Tryz.f6 false true false false) := by
  refine handed_laid (C := Tryz.checked) (X := fun w _ => laidMetH Tryz.prog laidAll7 w) (fun _ _ _ hh h => h.of_heap hh) own started (by kernel_rfl) Tryz.func6
    (ChangeSpec.witness_shaped (enc := enc) (C := Tryz.checked) (os := os) (X := fun w _ => laidMetH Tryz.prog laidAll7 w) false (World.laidAll Tryz.prog os laidAll7) #[.slice none 0 0] 8 (World.laidAll_os _ _ _)
      (World.shaped_of_ZipB (by kernel_rfl) (by kernel_rfl)) (by kernel_rfl) (by kernel_rfl) (by kernel_rfl)
      (by rw [MakeChecks.laidMetH_plain _ _ _ (by kernel_rfl)]; exact laidMet_laidAll _ (by kernel_rfl) (by kernel_rfl))) ?_
  intro W base args ds gs before hsh hval0 hW hL _
  have hval : ∀ (j : Nat) t v, Tryz.f6.params[j]? = some t → args[j]? = some v → Value.okWide Tryz.prog W .any base t v := hval0
  have hW' := hW
  obtain ⟨p, q, hA0, hV, rfl, _, _⟩ := hW
  have hA : DataW.TrodAll enc Tryz.prog W 0 (fun _ => true) true Tryz.f6.params.toList args.toList ds p := hA0
  rw [Tryz.params6] at hA hval
  obtain ⟨v0, vs0, d0, ds0, p0, q0, hargs, rfl, rfl, h0, r0⟩ := trodAll_cons hA
  obtain ⟨rfl, rfl, rfl⟩ := trodAll_nil r0
  obtain rfl : args = #[v0] := by cases args; simp_all
  obtain ⟨rfl, rfl⟩ := trodVars_none hV
  have t0 := h0
  have lt0 : ∀ x ∈ p0, x.block < W.heap.size := by obtain ⟨m, hm⟩ := t0; exact DataW.trod_lt m _ _ _ hm
  obtain ⟨xs0, A0, cap0, rfl, hB0⟩ := rn_of_arg (hval 0 45 v0 rfl rfl) h0
  rw [MakeChecks.laidMetH_plain _ _ _ (by kernel_rfl)] at hL
  have hT : S.Tabs W := tabs_of_reads (Lib.laidMet.reads hL (.tail _ (.tail _ (.tail _ (.tail _ (.tail _ (.tail _ (.head _)))))))) (Lib.laidMet.reads hL (.tail _ (.tail _ (.tail _ (.head _))))) (five_of_reads (Lib.laidMet.reads hL (.tail _ (.head _))))
  have hM : G.MX W := mx_of_shape hsh
  clear hA0 hval0
  refine (K.plainLaw xs0 A0 cap0 W hB0 hM hT).mono fun e W' ⟨he, bel⟩ => ?_
  subst he
  exact ⟨_, rfl, _, _, _, [], _, [], hW', trodAll_mk1 (shut_bool Tryz.underlying4 _), (trodAll_cons_mk (Below.trod laidOut (by kernel_rfl) (of_decide_eq_true (by kernel_rfl)) t0 bel lt0) trodAll_mk0), rfl, bel.frame _, fun h => by cases h⟩

theorem extractPlain_row : Rows.ExtractPlainSaid :=
  OpenClaim.holds_of_wide 6 Tryz.f6 rfl rfl rfl rfl rfl rfl rfl ⟨rfl, rfl, rfl, rfl, rfl⟩ rfl rfl rfl rfl rfl (by kernel_rfl) Tryz.func6 (by kernel_rfl)
    (of_decide_eq_true (by kernel_rfl)) (by unfold Func.isWrapper; first | (rw [if_pos (by decide +kernel)]; kernel_rfl) | (rw [if_neg (by decide +kernel)]; exact ⟨rfl, rfl⟩))
    (fun os started H enc _ => extractPlain_lifted os started H enc)

/-- THE STATEMENT. -/
theorem extractPlain_holds : Rows.ExtractPlainCardSaid :=
  Claim7.holds_tied_plain_at .later [] [.data, .data, .data, .data, .sentinel, .sentinel, .pinned] true (true, "f44a9557a23f5ff39d4fb72b61fb2ebe813314dde12cce187cb66d70984972e8") true
    extractPlain_row (fun _ h => by cases h) (by kernel_rfl) (fun _ h => by cases h) extractPlain_row_tie rfl ⟨rfl, rfl⟩ (by kernel_rfl) rfl
    (fun f fn hf hfn => by
      obtain rfl : f = 6 := Option.some.inj ((show Tryz.prog.funcNamed Rows.extractPlainRow.func = some 6 by kernel_rfl).symm.trans hf) |>.symm
      obtain rfl : fn = Tryz.f6 := (Option.some.inj (Tryz.func6.symm.trans hfn)).symm
      exact ⟨by kernel_rfl, fun j t ht => by
        rw [Tryz.params6] at ht
        have hm : t ∈ [45] := by simpa using Array.mem_of_getElem? ht
        have hall : ([45].all fun u => !Tryz.prog.wantsStandIn u) = true := by kernel_rfl
        exact (show Tryz.prog.wantsStandIn t = false by simpa using List.all_eq_true.1 hall t hm)⟩)
    (by kernel_rfl)
#print axioms extractPlain_holds
end Go.Proofs.YtojinnnpfjhifaaGreatDoor

