/-
  What the rows of flat lean on, part o.
-/
import Derived.Maps.AppendAt
import Derived.Laws.AppendOwnNone
import Derived.Test.YtfafhbgkmlmmdaaGreatDoorYrn
import Derived.Test.YtfafhbgkmlmmdaaGreatDoorYqi
import Derived.Deep.CutRange
import Derived.Laws.ResultCell
import Derived.Deep.MidRow
import Derived.Test.YtfafhbgkmlmmdaaGreatDoorYqc
import Derived.Test.YtfafhbgkmlmmdaaGreatDoorYqd
set_option maxRecDepth 100000
set_option maxHeartbeats 40000000
namespace Go.Proofs.YtfafhbgkmlmmdaaGreatDoor.K
open Go.RowKit Go.Shelf Go.Lib Go.Maps
attribute [local irreducible] nmL ofN
theorem u8C_append (l m : List Nat) : u8C (l ++ m) = u8C l ++ u8C m := by simp [u8C]
theorem wpList_appBs {ops : Array Oper} {rest : List Oper} {o : Oper} {a : Act} {w : World} {Q : Exit → Act → World → Prop} (hgd : o.guard = none) (s x : Operand)
  (ho : o.op = .call { callee := .builtin .append, args := #[s, x], argTypes := #[22, 22] }) (base : Nat) (v : Value) (l ys : List Nat) (hs : a.eval s = v) (hown : OwnB w base l v) (A : Option Addr) (m cap : Nat) (hm : ys.length = m)
  (hx : a.eval x = .slice A m cap) (hB : BY w w.heap.size ys A cap) (h63 : l.length + m ≤ 1000000) (hbase : base ≤ w.heap.size)
  (h : ∀ v' w', OwnB w' base (l ++ ys) v' → Below base w w' → wpList Tryz.prog ops Q rest (a.put o.dst v') w') : wpList Tryz.prog ops Q (o :: rest) a w := by
 obtain ⟨i, hi, hz, hs1, hb1⟩ := info_parts info5
 subst hm
 cases A with
 | none =>
  have hc := hB.z rfl
  subst hc
  have hy : ys = [] := List.eq_nil_of_length_eq_zero (by have := hB.l; omega)
  subst hy
  refine wpList_append_own_none hgd s x 22 ho base 5 i 1 Tryz.underlying22 hi v l.length (u8C l) hs hown hx ?_
  exact h v w (by rw [List.append_nil]; exact hown) (Below.refl _ _)
 | some ad =>
  obtain ⟨v', w', hr, h2, h3, _, _⟩ := run_append_own_at (P := Tryz.prog) w base 22 o.type 5 i (.int .u8 0) 1 1 Tryz.underlying22 hi hz hs1 hb1 rfl (by decide) v l.length (u8C l) hown ad ys.length cap (u8C ys) (by simp [u8C]) (fun j u hj => by
   unfold u8C at hj
   rw [List.getElem?_map] at hj
   cases e : ys[j]? with
   | none => rw [e] at hj; simp at hj
   | some y =>
    rw [e] at hj
    simp at hj
    subst hj
    obtain ⟨b, o', e2, _, hc⟩ := hB.at e
    simp only [Option.some.injEq] at e2
    subst e2
    unfold Addr.add
    by_cases h0 : j = 0
    ·subst h0; simpa using hc
    ·simpa [h0] using hc) (fun u hu => by
   simp [u8C] at hu
   obtain ⟨y, _, rfl⟩ := hu
   rfl) (by unfold maxLen; omega) (by omega) hbase
  refine wpList_plain hgd fun K hK => ?_
  unfold Oper.wp
  simp only [execOp, ho, resolve, invoke, builtin, Sem.run_bind, Sem.run_pure, Result.andThen_ok, List.map_toArray, List.map_cons, List.map_nil, hs, hx, hr]
  refine hK _ _ (h v' w' ?_ (below_grown' h3 hown hbase))
  unfold OwnB
  rw [List.length_append, u8C_append]
  exact h2
theorem enc_nat (r : Int) (j : Nat) (hj : j < (encodeRune r).length) : (putN r)[j]? = some ((encodeRune r)[j].toNat) := by
 have h1 := enc_f r j
 rw [putN_zb] at h1
 rw [List.getD_eq_getElem?_getD, List.getD_eq_getElem?_getD, List.getElem?_eq_getElem hj] at h1
 have hl : (putN r).length = (encodeRune r).length := by rw [enc_len2]; unfold putN; rw [List.length_map]
 rw [List.getElem?_eq_getElem (by omega)] at h1 ⊢
 simp at h1
 rw [h1]
theorem sput_any (r : Int) (h0 : -2147483648 ≤ r) (h1 : r ≤ 2147483647) (w : World) : Calls Tryz.prog 88 #[.int .i32 r] w (PutOk w r) := by
 refine (S.put_any r h0 h1 w).mono ?_
 rintro e w' ⟨g, cap, rfl, hc, hle, hm, hg, hb⟩
 have hl : (putN r).length = (encodeRune r).length := by rw [enc_len2]; unfold putN; rw [List.length_map]
 refine ⟨some ⟨g, 0, none⟩, cap, by rw [hl], ⟨by rw [hl]; exact hle, hm, fun e => (by cases e), putN_lt r, fun _ => ⟨g, 0, rfl, hg, fun i x hx => ?_⟩⟩, hb⟩
 have hi : i < (encodeRune r).length := by
  have := (List.getElem?_eq_some_iff.1 hx).1
  omega
 rw [enc_nat r i hi] at hx
 cases hx
 rw [Nat.zero_add]
 exact hc i hi
theorem putL_lt (l : List Int) : ∀ x ∈ putL l, x < 256 := fun x hx => by
 obtain ⟨r, _, h⟩ := List.mem_flatMap.1 hx
 exact putN_lt r x h
theorem putL_app (l m : List Int) : putL (l ++ m) = putL l ++ putL m := by simp [putL]
theorem putL_len : ∀ l : List Int, (putL l).length ≤ 4 * l.length
 | [] => Nat.zero_le _
 | r :: t => by
  have h1 := putL_len t
  have h2 := putN_len r
  show (putN r ++ putL t).length ≤ _
  rw [List.length_append, List.length_cons]
  omega
def putK (l : List IT) (k : Nat) : List Nat := putL ((l.take k).map (·.r))
theorem putK_next {l : List IT} {k : Nat} {x : IT} (h : l[k]? = some x) : putK l (k + 1) = putK l k ++ putN x.r := by
 unfold putK
 rw [List.take_add_one, h, List.map_append, putL_app]
 simp [putL]
theorem putK_len (l : List IT) (k : Nat) : (putK l k).length ≤ 4 * k := by
 have h1 := putL_len ((l.take k).map (·.r))
 rw [List.length_map, List.length_take] at h1
 unfold putK
 omega
theorem text12_any (l : List IT) (A : Option Addr) (c : Nat) (w : World) (h : IsA w w.heap.size l A c) (hr : ∀ x ∈ l, -2147483648 ≤ x.r ∧ x.r ≤ 2147483647) (hl : l.length ≤ 10000) :
  Calls Tryz.prog 56 #[.slice A l.length c] w fun e w' => e = .returned (.string ⟨(u8s (putL (l.map (·.r)))).toArray⟩) ∧ Below w.heap.size w w' := by
 have hle := h.le
 have hmx := h.mx
 obtain ⟨n, hn⟩ : ∃ q, l.length = q := ⟨_, rfl⟩
 rw [hn] at hle hl ⊢
 obtain ⟨S5, hS5⟩ : ∃ q : ByteArray, (⟨(u8s (putL (l.map (·.r)))).toArray⟩ : ByteArray) = q := ⟨_, rfl⟩
 rw [hS5]
 have HH := Lib.hid (And.intro h (And.intro hr (And.intro hn hl)))
 have HS := Lib.hid hS5
 clear h hr hn hl hS5
 go_enter Tryz.func56, Tryz.ntmps56
 go_wp2_with fail
 go_loopw [3, 5, 8] (fun o _ i wr => ∃ k : Nat, k ≤ n ∧ i = .int .i64 (k : Int) ∧ OwnB wr w.heap.size (putK l k) o ∧ Below w.heap.size w wr) (fun _ _ i _ => n - (RowKit.intOf i).toNat)
 case atStart => exact ⟨0, Nat.zero_le _, rfl, ownB_nil _ _, Below.refl _ _⟩
 case round =>
  obtain ⟨k, hk, rfl, ho, hb⟩ := hrel
  by_cases hkn : k < n
  case pos =>
   have i1 : (k : Int) < (n : Int) := by omega
   have ik : (k : Int) ≤ 100000 := by have := HH.out.2.2.2; omega
   obtain ⟨x, hx⟩ : ∃ x, l[k]? = some x := ⟨_, List.getElem?_eq_getElem (by rw [HH.out.2.2.1]; exact hkn)⟩
   have hxr := HH.out.2.1 x (List.mem_of_getElem? hx)
   have hpk := putK_next hx
   obtain ⟨b, o, rfl, hbb, a0, a1, a2, a3, a4, a5, a6⟩ := isA_cells ((HH.out.1.below hb).mono (Nat.le_refl _)) hx
   obtain ⟨xr, xa, xz, xf, xx, xn, xp⟩ := x
   simp only at a0 a1 a2 a3 a4 a5 a6 hxr hpk
   have aa1 : wr.cell? ⟨b, o + (k * 7 + 1), none⟩ = some (.int .i64 xa) := by rw [← Nat.add_assoc]; exact a1
   have aa2 : wr.cell? ⟨b, o + (k * 7 + 2), none⟩ = some (.int .i64 xz) := by rw [← Nat.add_assoc]; exact a2
   have aa3 : wr.cell? ⟨b, o + (k * 7 + 3), none⟩ = some (.bool xf) := by rw [← Nat.add_assoc]; exact a3
   have aa4 : wr.cell? ⟨b, o + (k * 7 + 4), none⟩ = some (.bool xx) := by rw [← Nat.add_assoc]; exact a4
   have aa5 : wr.cell? ⟨b, o + (k * 7 + 5), none⟩ = some (.bool xn) := by rw [← Nat.add_assoc]; exact a5
   have aa6 : wr.cell? ⟨b, o + (k * 7 + 6), none⟩ = some (.bool xp) := by rw [← Nat.add_assoc]; exact a6
   have t8 := cells_new wr #[.int .i32 xr, .int .i64 xa, .int .i64 xz, .bool xf, .bool xx, .bool xn, .bool xp] 52
   have b8 := below_new wr (.cells #[.int .i32 xr, .int .i64 xa, .int .i64 xz, .bool xf, .bool xx, .bool xn, .bool xp] 52)
   obtain ⟨W8, hW8⟩ : ∃ V, wr.alloc (.cells #[.int .i32 xr, .int .i64 xa, .int .i64 xz, .bool xf, .bool xx, .bool xn, .bool xp] 52) = V := ⟨_, rfl⟩
   rw [hW8] at t8 b8
   have y0 : W8.cell? ⟨wr.heap.size, 0, none⟩ = some (.int .i32 xr) := t8.cell 0
   have C := sput_any xr hxr.1 hxr.2 W8
   have HK := Lib.hid (And.intro hW8 (And.intro (ho.below b8) (And.intro (hb.trans (b8.mono hb.size)) hpk)))
   clear ho hb hx hxr hpk hbb t8 b8 hW8
   go_upto_region 5 with fail
   rw [HK.out.1]
   clear a0 a1 a2 a3 a4 a5 a6 aa1 aa2 aa3 aa4 aa5 aa6
   go_wp2_with fail
   refine C.mono ?_
   rintro e w5 ⟨A5, c5, rfl, hB5, b5⟩
   have own5 := HK.out.2.1.below b5
   have b15 : Below w.heap.size w w5 := HK.out.2.2.1.trans (b5.mono HK.out.2.2.1.size)
   have H5 := Lib.hid (And.intro own5 (And.intro hB5 (And.intro b15 (show (putK l k).length + (putN xr).length ≤ 1000000 by
    have h1 := putK_len l k
    have h2 := putN_len xr
    have h3 := HH.out.2.2.2
    omega))))
   obtain ⟨P, hP⟩ : ∃ q, (putN xr).length = q := ⟨_, rfl⟩
   have HP := Lib.hid hP
   rw [hP]
   clear own5 hB5 b15 b5 C y0 hP
   go_wp2_with (at_builtin; refine wpList_appBs rfl (.tmp 12) (.tmp 15) rfl w.heap.size _ (putK l k) (putN xr) rfl H5.out.1 A5 P c5 HP.out rfl H5.out.2.1 (by rw [← HP.out]; exact H5.out.2.2.2) H5.out.2.2.1.size ?_)
   intro v' w6 o6 b6
   have hend : ∃ j : Nat, j ≤ n ∧ Value.int .i64 ((k : Int) + 1) = .int .i64 (j : Int) ∧ OwnB w6 w.heap.size (putK l j) v' ∧ Below w.heap.size w w6 := ⟨k + 1, by omega, by simp, by rw [HK.out.2.2.2]; exact o6, H5.out.2.2.1.trans b6⟩
   have HEND := Lib.hid hend
   clear hend o6 b6
   go_wp2_with fail
   go_roundw
   case rel => exact HEND.out
   case measure => simp [RowKit.intOf]; omega
  case neg =>
   obtain rfl : k = n := by omega
   have i1 : ¬ (k : Int) < (k : Int) := by omega
   have hkk : putK l k = putL (l.map (·.r)) := by
    unfold putK
    rw [List.take_of_length_le (by rw [HH.out.2.2.1]; exact Nat.le_refl _)]
   rw [hkk] at ho
   obtain ⟨A5, c5, rfl, hB5⟩ := OwnB.by ho (putL_lt _)
   have hcv := conv_by hB5
   obtain ⟨P, hP⟩ : ∃ q, (putL (l.map (·.r))).length = q := ⟨_, rfl⟩
   rw [HS.out, hP] at hcv
   rw [hP]
   have HZ := Lib.hid hb
   clear hb ho hB5 hkk hkn hk hP
   go_wp2_with fail
   go_ret
   exact ⟨rfl, HZ.out⟩
theorem ftext_any (g : Nat) (xs : List Nat) (l : List IT) (w : World) (h : FL w w.heap.size g xs l) (hr : ∀ x ∈ l, -2147483648 ≤ x.r ∧ x.r ≤ 2147483647) (hl : l.length ≤ 10000) :
  Calls Tryz.prog 32 #[.pointer (some ⟨g, 0, none⟩)] w fun e w' => e = .returned (.string ⟨(G.u8s (putL (l.map (·.r)))).toArray⟩) ∧ Below w.heap.size w w' := by
 obtain ⟨A, cap, A2, c2, h1, h2, _, h4⟩ := h.c
 have C := text12_any l A2 c2 w h4 hr hl
 obtain ⟨S, hS⟩ : ∃ q : ByteArray, (⟨(G.u8s (putL (l.map (·.r)))).toArray⟩ : ByteArray) = q := ⟨_, rfl⟩
 obtain ⟨n, hn⟩ : ∃ q, l.length = q := ⟨_, rfl⟩
 rw [hn] at h2 C
 have C' : Calls Tryz.prog 56 #[.slice A2 n c2] w fun e w' => e = .returned (.string S) ∧ Below w.heap.size w w' := by rw [← hS]; exact C
 rw [hS]
 clear h h1 h4 hr hl hn C hS
 go_enter Tryz.func32, Tryz.ntmps32
 go_wp2_with fail
 refine C'.mono ?_
 rintro e w' ⟨rfl, hb⟩
 have HB := Lib.hid hb
 clear hb C'
 go_wp2_with fail
 go_ret
 exact ⟨rfl, HB.out⟩
theorem fitems_any (g : Nat) (xs : List Nat) (l : List IT) (w : World) (h : FL w w.heap.size g xs l) (hl : l.length ≤ 100000) :
  Calls Tryz.prog 33 #[.pointer (some ⟨g, 0, none⟩)] w fun e w' => ∃ v, e = .returned v ∧ OwnIt w' w.heap.size l v ∧ Below w.heap.size w w' := by
 obtain ⟨A, cap, A2, c2, h1, h2, _, h4⟩ := h.c
 have C := cloneI_any l A2 c2 w h4 hl
 obtain ⟨n, hn⟩ : ∃ q, l.length = q := ⟨_, rfl⟩
 rw [hn] at h2 C
 clear h h1 h4 hl hn
 go_enter Tryz.func33, Tryz.ntmps33
 go_wp2_with fail
 refine C.mono ?_
 rintro e w' ⟨v, rfl, ho, hb⟩
 have HB := Lib.hid (And.intro ho hb)
 clear ho hb C
 go_wp2_with fail
 go_ret
 exact ⟨_, rfl, HB.out⟩
end Go.Proofs.YtfafhbgkmlmmdaaGreatDoor.K
namespace Go.Proofs.YtfafhbgkmlmmdaaGreatDoor.K.R
open Go.RowKit Go.Shelf Go.Lib Go.Maps
def rowI : List IT → List Value
 | [] => []
 | x :: r => (itA x).toList ++ rowI r
theorem rowI_app : ∀ l m : List IT, rowI (l ++ m) = rowI l ++ rowI m
 | [], m => by simp [rowI]
 | t :: r, m => by
  show (itA t).toList ++ rowI (r ++ m) = ((itA t).toList ++ rowI r) ++ _
  rw [rowI_app r m]
  simp
theorem rowI_snoc (x : IT) (l : List IT) : rowI (l ++ [x]) = rowI l ++ (itA x).toList := by
 rw [rowI_app]
 simp [rowI]
theorem rowI_len : ∀ l : List IT, (rowI l).length = l.length * 7
 | [] => rfl
 | x :: r => by
  show ((itA x).toList ++ rowI r).length = _
  rw [List.length_append, rowI_len r]
  simp [itA]
  omega
theorem rowI_at : ∀ (l : List IT) (i : Nat) (x : IT), l[i]? = some x → ∀ j, j < 7 → (rowI l)[i * 7 + j]? = (itA x)[j]?
 | [], i, a, h, _, _ => by simp at h
 | x :: l, 0, a, h, j, hj => by
  simp at h
  subst h
  rw [show rowI (x :: l) = (itA x).toList ++ rowI l from rfl, Nat.zero_mul, Nat.zero_add, List.getElem?_append_left (by simpa [itA] using hj)]
  simp
 | x :: l, i + 1, a, h, j, hj => by
  have ih := rowI_at l i a (by simpa using h) j hj
  rw [show rowI (x :: l) = (itA x).toList ++ rowI l from rfl, List.getElem?_append_right (by simp [itA]; omega)]
  rw [← ih]
  congr 1
  simp [itA]
  omega
theorem rowI_one : ∀ (l : List IT), ∀ u ∈ rowI l, u.oneCell' = true
 | [], u, h => by simp [rowI] at h
 | x :: r, u, h => by
  rcases List.mem_append.1 h with h | h
  ·simp [itA] at h
   rcases h with rfl | rfl | rfl | rfl | rfl | rfl | rfl <;> rfl
  ·exact rowI_one r u h
def OwnIt (w : World) (base : Nat) (l : List IT) (v : Value) : Prop := w.ownsRow base 51 7 v l.length (rowI l)
theorem OwnIt.below {w w' : World} {base : Nat} {l : List IT} {v : Value} (h : OwnIt w base l v) (hb : Below w.heap.size w w') : OwnIt w' base l v := ownsRow_below h hb
theorem ownIt_nil (w : World) (base : Nat) : OwnIt w base [] (.slice none 0 0) := ⟨rfl, .inl ⟨rfl, rfl⟩⟩
theorem OwnIt.lower {w : World} {base b2 : Nat} {l : List IT} {v : Value} (h : OwnIt w base l v) (hb : b2 ≤ base) : OwnIt w b2 l v := by
 refine ⟨h.1, ?_⟩
 rcases h.2 with h2 | ⟨g, cap, cur, h1, h2, h3⟩
 ·exact .inl h2
 ·exact .inr ⟨g, cap, cur, h1, by omega, h3⟩
structure IsA (w : World) (B : Nat) (l : List IT) (A : Option Addr) (c : Nat) : Prop where
 le : l.length ≤ c
 mx : c ≤ maxLen
 r : ∀ (i : Nat) (x : IT), l[i]? = some x → ∃ b o, A = some ⟨b, o, none⟩ ∧ b < B ∧ ∀ j u, (itA x)[j]? = some u → w.cell? ⟨b, o + (i * 7 + j), none⟩ = some u
theorem IsA.below {w w' : World} {B : Nat} {l : List IT} {A : Option Addr} {c : Nat} (h : IsA w B l A c) (hb : Below B w w') : IsA w' B l A c :=
 ⟨h.le, h.mx, fun i a ha => by
  obtain ⟨b, o, e, h1, h2⟩ := h.r i a ha
  exact ⟨b, o, e, h1, fun j u hu => (hb.cell (p := ⟨b, _, none⟩) h1).trans (h2 j u hu)⟩⟩
theorem IsA.mono {w : World} {B B' : Nat} {l : List IT} {A : Option Addr} {c : Nat} (h : IsA w B l A c) (hB : B ≤ B') : IsA w B' l A c :=
 ⟨h.le, h.mx, fun i a ha => by
  obtain ⟨b, o, e, h1, h2⟩ := h.r i a ha
  exact ⟨b, o, e, by omega, h2⟩⟩
theorem IsA.on {w w' : World} {l : List IT} {A : Option Addr} {c : Nat} (h : IsA w w.heap.size l A c) (hb : Below w.heap.size w w') : IsA w' w'.heap.size l A c := (h.below hb).mono hb.size
theorem IsA.of_own {w : World} {base : Nat} {l : List IT} {v : Value} (h : OwnIt w base l v) : ∃ A c, v = .slice A l.length c ∧ IsA w w.heap.size l A c := by
 rcases h.2 with ⟨h1, h2⟩ | ⟨g, cap, cur, h1, h2, h3, h4, h5, h6, h7⟩
 ·have hn : l = [] := List.eq_nil_of_length_eq_zero h2
  subst hn
  exact ⟨none, 0, by rw [h1]; rfl, ⟨Nat.le_refl _, by unfold maxLen; omega, fun i a ha => by simp at ha⟩⟩
 ·refine ⟨_, cap, h1, ⟨h4, h5, fun i a ha => ⟨g, 0, rfl, (Array.getElem?_eq_some_iff.1 h3).1, fun j u hu => ?_⟩⟩⟩
  have hj : j < 7 := by
   have := (Array.getElem?_eq_some_iff.1 hu).1
   simpa [itA] using this
  have c := World.ownsRow.cells h (g := g) (by rw [h1]; rfl) (i * 7 + j) u ((rowI_at l i a ha j hj).trans hu)
  rw [add0] at c
  rw [Nat.zero_add]
  exact c
theorem info30 : (Tryz.prog.info? 51).map (fun i => (i.zero.map (fun z => z.cells.size), i.size, i.bytes)) = some (some 7, 7, 32) := by kernel_rfl
theorem info30_parts : ∃ i z, Tryz.prog.info? 51 = some i ∧ i.zero = some z ∧ i.size = 7 ∧ i.bytes = 32 ∧ z.cells.size = 7 := by
 have h := info30
 cases e : Tryz.prog.info? 51 with
 | none => rw [e] at h; simp at h
 | some i =>
  rw [e] at h
  cases e2 : i.zero with
  | none => simp [e2] at h
  | some z =>
   simp [e2] at h
   exact ⟨i, z, rfl, e2, h.2.1, h.2.2, h.1⟩
theorem wpList_appI {ops : Array Oper} {rest : List Oper} {o : Oper} {a : Act} {w : World} {Q : Exit → Act → World → Prop} (hgd : o.guard = none) (s x : Operand)
  (ho : o.op = .call { callee := .builtin .append, args := #[s, x], argTypes := #[47, 47] }) (base : Nat) (v : Value) (l : List IT) (t : IT) (hs : a.eval s = v) (w0 : World) (h0 : OwnIt w0 base l v) (hw0 : w0.alloc (.cells (itA t) 51) = w)
  (hx : a.eval x = .slice (some ⟨w0.heap.size, 0, none⟩) 1 1) (h63 : l.length ≤ 1000000) (hbase : base ≤ w0.heap.size)
  (h : ∀ g cap w', OwnIt w' base (l ++ [t]) (.slice (some ⟨g, 0, none⟩) (l.length + 1) cap) → Below base w0 w' → (∀ k, k < w0.heap.size → v.ownBlock ≠ some k → w'.heap[k]? = w0.heap[k]?) → (v.ownBlock = some g ∨ w0.heap.size ≤ g) → wpList Tryz.prog ops Q rest (a.put o.dst (.slice (some ⟨g, 0, none⟩) (l.length + 1) cap)) w') :
  wpList Tryz.prog ops Q (o :: rest) a w := by
 obtain ⟨i, z, hi, hz, hs1, hb1, hz1⟩ := info30_parts
 subst hw0
 have al := below_new w0 (.cells (itA t) 51)
 have hown := h0.below al
 have hsz : base ≤ (w0.alloc (.cells (itA t) 51)).heap.size := by rw [World.size_alloc]; omega
 refine wpList_append_lies _ hgd s x 47 ho base 51 i _ 7 32 Tryz.underlying47 hi hz hs1 hb1 hz1 (by decide) v l.length (rowI l) hs hown ⟨w0.heap.size, 0, none⟩ 1 1 (itA t).toList hx rfl (World.news_of_block (by simpa using heap_alloc_new w0 (.cells (itA t) 51))) (fun u hu => ?_) (by decide) (by unfold maxLen; omega) (by omega) hsz _ rfl ?_
 ·simp [itA] at hu
  rcases hu with rfl | rfl | rfl | rfl | rfl | rfl | rfl <;> rfl
 ·intro g cap w' h1 h2 h3 _
  refine h g cap w' ?_ ?_ (fun k hk hn => (h2.block k (by rw [World.size_alloc]; omega) (fun e => hn e.symm)).trans (al.block k hk)) (h3.imp id (fun e => by rw [e, World.size_alloc]; omega))
  ·unfold OwnIt
   rw [rowI_snoc, List.length_append]
   exact h1
  ·refine (al.mono hbase).trans ⟨h2.os, h2.tape, h2.output, h2.size, fun k hk => h2.block k (by omega) (fun e => by have := (own_block_lt hown k e.symm).1; omega)⟩
theorem wpList_appIs {ops : Array Oper} {rest : List Oper} {o : Oper} {a : Act} {w : World} {Q : Exit → Act → World → Prop} (hgd : o.guard = none) (s x : Operand)
  (ho : o.op = .call { callee := .builtin .append, args := #[s, x], argTypes := #[47, 47] }) (base : Nat) (v : Value) (l m : List IT) (hs : a.eval s = v) (h0 : OwnIt w base l v) (A : Option Addr) (c : Nat) (hm : IsA w w.heap.size m A c) (hne : m ≠ [])
  (hx : a.eval x = .slice A m.length c) (h63 : l.length + m.length ≤ 1000000) (hbase : base ≤ w.heap.size)
  (h : ∀ g cap w', OwnIt w' base (l ++ m) (.slice (some ⟨g, 0, none⟩) (l.length + m.length) cap) → w.grownBy w' v.ownBlock → wpList Tryz.prog ops Q rest (a.put o.dst (.slice (some ⟨g, 0, none⟩) (l.length + m.length) cap)) w') :
  wpList Tryz.prog ops Q (o :: rest) a w := by
 obtain ⟨i, z, hi, hz, hs1, hb1, hz1⟩ := info30_parts
 have hlen : 0 < m.length := List.length_pos_iff.2 hne
 obtain ⟨b, o', rfl, hbl, _⟩ := hm.r 0 m[0] (List.getElem?_eq_getElem hlen)
 refine wpList_append_lies _ hgd s x 47 ho base 51 i _ 7 32 Tryz.underlying47 hi hz hs1 hb1 hz1 (by decide) v l.length (rowI l) hs h0 ⟨b, o', none⟩ m.length c (rowI m) hx (rowI_len m) (fun j u hu => ?_) (rowI_one m) hlen (by unfold maxLen; omega) (by omega) hbase _ rfl ?_
 ·have hj : j < m.length * 7 := by have := (List.getElem?_eq_some_iff.1 hu).1; rwa [rowI_len] at this
  have hd : j / 7 < m.length := by omega
  obtain ⟨b', o2, e, _, hc⟩ := hm.r (j / 7) m[j / 7] (List.getElem?_eq_getElem hd)
  cases e
  have e2 := rowI_at m (j / 7) _ (List.getElem?_eq_getElem hd) (j % 7) (by omega)
  rw [show j / 7 * 7 + j % 7 = j by omega, hu] at e2
  have := hc (j % 7) u e2.symm
  rw [Addr.add_mid, show o' + j = o' + (j / 7 * 7 + j % 7) by omega]
  exact this
 ·intro g cap w' h1 h2 _ _
  refine h g cap w' ?_ h2
  unfold OwnIt
  rw [rowI_app, List.length_append]
  exact h1
theorem isA_cells {w : World} {B : Nat} {l : List IT} {A : Option Addr} {c : Nat} (h : IsA w B l A c) {i : Nat} {x : IT} (hx : l[i]? = some x) : ∃ b o, A = some ⟨b, o, none⟩ ∧ b < B ∧
  w.cell? ⟨b, o + i * 7, none⟩ = some (.int .i32 x.r) ∧ w.cell? ⟨b, o + i * 7 + 1, none⟩ = some (.int .i64 x.at_) ∧ w.cell? ⟨b, o + i * 7 + 2, none⟩ = some (.int .i64 x.sz) ∧ w.cell? ⟨b, o + i * 7 + 3, none⟩ = some (.bool x.f) ∧
  w.cell? ⟨b, o + i * 7 + 4, none⟩ = some (.bool x.x) ∧ w.cell? ⟨b, o + i * 7 + 5, none⟩ = some (.bool x.n) ∧ w.cell? ⟨b, o + i * 7 + 6, none⟩ = some (.bool x.p) := by
 obtain ⟨b, o, e, h1, h2⟩ := h.r i x hx
 simp only [← Nat.add_assoc] at h2
 exact ⟨b, o, e, h1, h2 0 _ rfl, h2 1 _ rfl, h2 2 _ rfl, h2 3 _ rfl, h2 4 _ rfl, h2 5 _ rfl, h2 6 _ rfl⟩
end Go.Proofs.YtfafhbgkmlmmdaaGreatDoor.K.R
namespace Go.Proofs.YtfafhbgkmlmmdaaGreatDoor.S
open Go.RowKit Go.Shelf
open Go.Lib
def va (v0 : Nat) (f : Nat → Nat) : Nat → Nat
 | 0 => v0
 | m + 1 => 64 * va v0 f m + f (m + 1) - 128
def Good (k : Nat) (f : Nat → Nat) : Prop := ∀ j, 1 ≤ j → j < k → 128 ≤ f j ∧ f j ≤ 191
theorem va_le {v0 C : Nat} {f : Nat → Nat} (h : v0 + 1 ≤ C) (m : Nat) : Good (m + 1) f → va v0 f m + 1 ≤ C * 64 ^ m := by
 induction m with
 | zero =>
  intro _
  have e : va v0 f 0 = v0 := rfl
  rw [e, Nat.pow_zero, Nat.mul_one]
  exact h
 | succ m ih =>
  intro hg
  have hr := ih (fun j a b => hg j a (by omega))
  have h1 := hg (m + 1) (by omega) (by omega)
  rw [Nat.pow_succ, ← Nat.mul_assoc]
  generalize C * 64 ^ m = X at *
  have e : va v0 f (m + 1) = 64 * va v0 f m + f (m + 1) - 128 := rfl
  rw [e]
  omega
def sLo (V k m : Nat) : Nat := V * 64 ^ (m - k)
def sHi (V k m : Nat) : Nat := (V + 1) * 64 ^ (m - k) - 1
theorem sLo_self (V k : Nat) : sLo V k k = V := by simp [sLo]
theorem sHi_self (V k : Nat) : sHi V k k = V := by simp [sHi]
theorem sLo_succ (V k m : Nat) (h : k ≤ m) : sLo V k (m + 1) = 64 * sLo V k m := by
 unfold sLo
 rw [show m + 1 - k = (m - k) + 1 from by omega, Nat.pow_succ, ← Nat.mul_assoc, Nat.mul_comm]
theorem sHi_succ (V k m : Nat) (h : k ≤ m) : sHi V k (m + 1) = 64 * sHi V k m + 63 := by
 unfold sHi
 rw [show m + 1 - k = (m - k) + 1 from by omega, Nat.pow_succ, ← Nat.mul_assoc]
 have : 1 ≤ (V + 1) * 64 ^ (m - k) := Nat.mul_pos (by omega) (Nat.pos_of_ne_zero (by simp))
 omega
theorem sLo_le (V k m : Nat) : sLo V k m ≤ sHi V k m := by
 unfold sLo sHi
 have : 1 ≤ 64 ^ (m - k) := Nat.pos_of_ne_zero (by simp)
 rw [Nat.add_mul]
 omega
theorem sHi_le {V C k N m : Nat} (hV : V + 1 ≤ C * 64 ^ (k - 1)) (hk : 1 ≤ k) (hm : k ≤ m) (hN : m ≤ N) (hC : C * 64 ^ (N - 1) ≤ 2097152) : sHi V k m ≤ 2097151 := by
 unfold sHi
 have h1 : (V + 1) * 64 ^ (m - k) ≤ C * 64 ^ (k - 1) * 64 ^ (m - k) := Nat.mul_le_mul_right _ hV
 rw [Nat.mul_assoc, ← Nat.pow_add] at h1
 have h2 : 64 ^ (k - 1 + (m - k)) ≤ 64 ^ (N - 1) := Nat.pow_le_pow_right (by omega) (by omega)
 have h3 := Nat.mul_le_mul_left C h2
 omega
open Classical in
noncomputable def begC (N v0 least most k : Nat) (f : Nat → Nat) : Nat × Nat :=
 if Good k f then
  (if sHi (va v0 f (k - 1)) k N < least then (0, 0)
   else if most < sLo (va v0 f (k - 1)) k N then (0, 0)
   else if 55296 ≤ sLo (va v0 f (k - 1)) k N ∧ sHi (va v0 f (k - 1)) k N ≤ 57343 then (0, 0)
   else (sLo (va v0 f (k - 1)) k N, N))
 else (0, 0)
theorem begC_bad {N v0 least most k : Nat} {f : Nat → Nat} (h : ¬ Good k f) : begC N v0 least most k f = (0, 0) := by unfold begC; rw [if_neg h]
theorem beg_1 (b off k cap : Nat) (f : Nat → Nat) (w : World) (hB : Bs w b off k f) (hk : 1 ≤ k) (h0 : f 0 < 128) :
  Calls Tryz.prog 109 #[.slice (some ⟨b, off, none⟩) k cap] w fun e w' => e = .returned (.tuple #[.int .i32 (f 0), .int .i64 1]) ∧ w = w' := by
 have hc := (hB 0 (by omega)).1
 simp only [Nat.add_zero] at hc
 have k0 : (0 : Int) < (k : Int) := by omega
 have d0 : ((f 0 : Nat) : Int) < 128 := by omega
 clear hB
 generalize f 0 = c at *
 go_enter Tryz.func109, Tryz.ntmps109
 go_wp2
 go_ret2
 exact ⟨rfl, rfl⟩
theorem beg_0 (b off k cap : Nat) (f : Nat → Nat) (w : World) (hB : Bs w b off k f) (hk : 1 ≤ k) (h0 : (128 ≤ f 0 ∧ f 0 < 192) ∨ 248 ≤ f 0) :
  Calls Tryz.prog 109 #[.slice (some ⟨b, off, none⟩) k cap] w fun e w' => e = .returned (.tuple #[.int .i32 0, .int .i64 0]) ∧ w = w' := by
 have hc := (hB 0 (by omega)).1
 simp only [Nat.add_zero] at hc
 have k0 : (0 : Int) < (k : Int) := by omega
 have hb8 := (hB 0 (by omega)).2
 clear hB
 generalize f 0 = c at *
 have hb9 : (c : Int) < 256 := by omega
 have hb7 : (0 : Int) ≤ (c : Int) := by omega
 rcases h0 with ⟨h1, h2⟩ | h1
 ·have d0 : ¬ ((c : Nat) : Int) < 128 := by omega
  have d1 : ((c : Nat) : Int) < 192 := by omega
  go_enter Tryz.func109, Tryz.ntmps109
  go_wp2
  go_ret2
  exact ⟨rfl, rfl⟩
 ·have d0 : 248 ≤ ((c : Nat) : Int) := by omega
  go_enter Tryz.func109, Tryz.ntmps109
  go_wp2
  go_ret2
  exact ⟨rfl, rfl⟩
theorem beg_2 (b off k cap : Nat) (f : Nat → Nat) (w : World) (hB : Bs w b off k f) (hk : 1 ≤ k) (hkN : k ≤ 2) (h0 : 192 ≤ f 0 ∧ f 0 < 224) :
  Calls Tryz.prog 109 #[.slice (some ⟨b, off, none⟩) k cap] w fun e w' => e = .returned (.tuple #[.int .i32 (begC 2 (f 0 - 192) 128 2047 k f).1, .int .i64 (begC 2 (f 0 - 192) 128 2047 k f).2]) ∧ w = w' := by
 have hc := (hB 0 (by omega)).1
 simp only [Nat.add_zero] at hc
 have k0 : (0 : Int) < (k : Int) := by omega
 have kN : ¬ ((2 : Int) < (k : Int)) := by omega
 have hVle : ∀ m, Good (m + 1) f → va (f 0 - 192) f m + 1 ≤ 32 * 64 ^ m := fun m => va_le (by omega) m
 obtain ⟨c, hcc⟩ : ∃ c, f 0 = c := ⟨_, rfl⟩
 rw [hcc] at hc h0 hVle ⊢
 clear hcc
 obtain ⟨d0, d1⟩ : (192 : Int) ≤ (c : Int) ∧ (c : Int) < 224 := by omega
 have e0 : ((c : Int) - 192) = ((c - 192 : Nat) : Int) := by omega
 have E0 := Lib.hid e0
 clear e0
 have HB := Lib.hid hB
 have HV := Lib.hid hVle
 clear hB hVle
 go_enter Tryz.func109, Tryz.ntmps109
 go_wp2
 go_loop [5, 9] (fun v i => ∃ m : Nat, m + 1 ≤ k ∧ i = .int .i64 ((m + 1 : Nat) : Int) ∧ v = .int .i32 (va (c - 192) f m) ∧ Good (m + 1) f) (fun _ i => k - (RowKit.intOf i).toNat)
 case atStart => exact ⟨0, by omega, rfl, by rw [E0.out]; rfl, fun j a b => by omega⟩
 case round =>
  obtain ⟨m, hmk, rfl, rfl, hg⟩ := hrel
  have HG := Lib.hid hg
  have hvb := HV.out m hg
  clear hg
  by_cases hlt : m + 1 < k
  ·have hcm := (HB.out (m + 1) hlt).1
   have hb8 := (HB.out (m + 1) hlt).2
   have hm2 : m ≤ 2 := by omega
   have hvb' : va (c - 192) f m ≤ 8388607 := by
    have : 64 ^ m ≤ 64 ^ 2 := Nat.pow_le_pow_right (by omega) hm2
    omega
   obtain ⟨x, hx⟩ : ∃ x, f (m + 1) = x := ⟨_, rfl⟩
   rw [hx] at hcm hb8
   have HX := Lib.hid hx
   have hva : va (c - 192) f (m + 1) = 64 * va (c - 192) f m + x - 128 := by rw [← hx]; rfl
   have HA := Lib.hid hva
   clear hx hva
   obtain ⟨V, hV⟩ : ∃ V, va (c - 192) f m = V := ⟨_, rfl⟩
   rw [hV] at hvb' hvb ⊢
   have HW := Lib.hid hV
   clear hV hvb
   have b0 : (0 : Int) ≤ (V : Int) := by omega
   have b1 : (V : Int) ≤ 8388607 := by omega
   have b2 : (0 : Int) ≤ (m : Int) := by omega
   have b3 : (m : Int) + 1 < (k : Int) := by omega
   by_cases c1 : x < 128
   ·have t1 : decide ((x : Int) < 128) = true := by simp; omega
    go_wp2
    go_ret2
    exact ⟨by rw [begC_bad (fun h => by have := (h (m + 1) (by omega) hlt).1; have := HX.out; omega)]; rfl, rfl⟩
   ·by_cases c2 : 192 ≤ x
    ·have t1 : decide ((x : Int) < 128) = false := by simp; omega
     have t2 : (192 : Int) ≤ (x : Int) := by omega
     go_wp2
     go_ret2
     exact ⟨by rw [begC_bad (fun h => by have := (h (m + 1) (by omega) hlt).2; have := HX.out; omega)]; rfl, rfl⟩
    ·have t1 : decide ((x : Int) < 128) = false := by simp; omega
     have t2 : (x : Int) < 192 := by omega
     have t3 : (128 : Int) ≤ (x : Int) := by omega
     go_wp2
     go_round
     case rel => exact ⟨m + 1, by omega, by go_num, by
      rw [HA.out, HW.out]
      congr 1
      omega, fun j a bj => by
      rcases Nat.lt_or_ge m j with q | q
      ·obtain rfl : j = m + 1 := by omega
       have := HX.out
       omega
      ·exact HG.out j a (by omega)⟩
     case measure => simp [RowKit.intOf]; omega
  ·obtain rfl : k = m + 1 := by omega
   have kk : ((m : Int) + 1 < (m : Int) + 1) = False := by simp
   obtain ⟨V, hV⟩ : ∃ V, va (c - 192) f m = V := ⟨_, rfl⟩
   rw [hV] at hvb ⊢
   have HW := Lib.hid hV
   clear hV
   have HS := fun q (h1 : m + 1 ≤ q) (h2 : q ≤ 2) => sHi_le (V := V) (C := 32) (k := m + 1) (N := 2) (m := q) (by simpa using hvb) (by omega) h1 h2 (by omega)
   have HS := Lib.hid HS
   clear hvb
   go_wp2
   go_loop [10, 11, 12] (fun lo hi i => ∃ q : Nat, m + 1 ≤ q ∧ q ≤ 2 ∧ i = .int .i64 (q : Int) ∧ lo = .int .i32 (sLo V (m + 1) q) ∧ hi = .int .i32 (sHi V (m + 1) q)) (fun _ _ i => 2 - (RowKit.intOf i).toNat)
   case atStart => exact ⟨m + 1, by omega, by omega, by go_num, by rw [sLo_self], by rw [sHi_self]⟩
   case round =>
    obtain ⟨q, hq1, hq2, rfl, rfl, rfl⟩ := hrel
    by_cases hqN : q < 2
    ·have w1 := HS.out (q + 1) (by omega) (by omega)
     have w2 := sLo_le V (m + 1) (q + 1)
     have s1 := sLo_succ V (m + 1) q hq1
     have s2 := sHi_succ V (m + 1) q hq1
     rw [s2] at w1 w2
     rw [s1] at w2
     have S1 := Lib.hid s1
     have S2 := Lib.hid s2
     clear s1 s2
     generalize sLo V (m + 1) q = L at *
     generalize sHi V (m + 1) q = H at *
     have b0 : (0 : Int) ≤ (L : Int) := by omega
     have b1 : (L : Int) ≤ 8388607 := by omega
     have b2 : (0 : Int) ≤ (H : Int) := by omega
     have b3 : (H : Int) ≤ 8388607 := by omega
     have b4 : (q : Int) < 2 := by omega
     go_wp2
     go_round
     case rel => exact ⟨q + 1, by omega, by omega, by go_num, by rw [S1.out]; go_num, by rw [S2.out]; go_num⟩
     case measure => simp [RowKit.intOf]; omega
    ·obtain rfl : q = 2 := by omega
     have hgk := HG.out
     have res : begC 2 (c - 192) 128 2047 (m + 1) f = (if sHi V (m + 1) 2 < 128 then (0, 0) else if 2047 < sLo V (m + 1) 2 then (0, 0) else if 55296 ≤ sLo V (m + 1) 2 ∧ sHi V (m + 1) 2 ≤ 57343 then (0, 0) else (sLo V (m + 1) 2, 2)) := by
      unfold begC
      rw [if_pos hgk, Nat.add_sub_cancel, HW.out]
     clear hgk
     have w1 := HS.out 2 (by omega) (by omega)
     have w2 := sLo_le V (m + 1) 2
     generalize sLo V (m + 1) 2 = L at *
     generalize sHi V (m + 1) 2 = H at *
     by_cases c1 : H < 128
     ·have t1 : decide ((H : Int) < 128) = true := by simp; omega
      rw [if_pos c1] at res
      have HF := Lib.hid res
      clear res
      go_wp2
      go_ret2
      exact ⟨by rw [HF.out]; rfl, rfl⟩
     ·have t1 : decide ((H : Int) < 128) = false := by simp; omega
      rw [if_neg c1] at res
      by_cases c2 : 2047 < L
      ·have t2 : decide ((2047 : Int) < (L : Int)) = true := by simp; omega
       rw [if_pos c2] at res
       have HF := Lib.hid res
       clear res
       go_wp2
       go_ret2
       exact ⟨by rw [HF.out]; rfl, rfl⟩
      ·have t2 : decide ((2047 : Int) < (L : Int)) = false := by simp; omega
       rw [if_neg c2] at res
       by_cases c3 : 55296 ≤ L
       ·have t3 : decide ((55296 : Int) ≤ (L : Int)) = true := by simp; omega
        by_cases c4 : H ≤ 57343
        ·have t4 : decide ((H : Int) ≤ 57343) = true := by simp; omega
         rw [if_pos ⟨c3, c4⟩] at res
         have HF := Lib.hid res
         clear res
         go_wp2
         go_ret2
         exact ⟨by rw [HF.out]; rfl, rfl⟩
        ·have t4 : decide ((H : Int) ≤ 57343) = false := by simp; omega
         rw [if_neg (fun h => c4 h.2)] at res
         have HF := Lib.hid res
         clear res
         go_wp2
         go_ret2
         exact ⟨by rw [HF.out]; rfl, rfl⟩
       ·have t3 : decide ((55296 : Int) ≤ (L : Int)) = false := by simp; omega
        rw [if_neg (fun h => c3 h.1)] at res
        have HF := Lib.hid res
        clear res
        go_wp2
        go_ret2
        exact ⟨by rw [HF.out]; rfl, rfl⟩
theorem beg_3 (b off k cap : Nat) (f : Nat → Nat) (w : World) (hB : Bs w b off k f) (hk : 1 ≤ k) (hkN : k ≤ 3) (h0 : 224 ≤ f 0 ∧ f 0 < 240) :
  Calls Tryz.prog 109 #[.slice (some ⟨b, off, none⟩) k cap] w fun e w' => e = .returned (.tuple #[.int .i32 (begC 3 (f 0 - 224) 2048 65535 k f).1, .int .i64 (begC 3 (f 0 - 224) 2048 65535 k f).2]) ∧ w = w' := by
 have hc := (hB 0 (by omega)).1
 simp only [Nat.add_zero] at hc
 have k0 : (0 : Int) < (k : Int) := by omega
 have kN : ¬ ((3 : Int) < (k : Int)) := by omega
 have hVle : ∀ m, Good (m + 1) f → va (f 0 - 224) f m + 1 ≤ 16 * 64 ^ m := fun m => va_le (by omega) m
 obtain ⟨c, hcc⟩ : ∃ c, f 0 = c := ⟨_, rfl⟩
 rw [hcc] at hc h0 hVle ⊢
 clear hcc
 obtain ⟨d0, d1⟩ : (224 : Int) ≤ (c : Int) ∧ (c : Int) < 240 := by omega
 have e0 : ((c : Int) - 224) = ((c - 224 : Nat) : Int) := by omega
 have E0 := Lib.hid e0
 clear e0
 have HB := Lib.hid hB
 have HV := Lib.hid hVle
 clear hB hVle
 go_enter Tryz.func109, Tryz.ntmps109
 go_wp2
 go_loop [5, 9] (fun v i => ∃ m : Nat, m + 1 ≤ k ∧ i = .int .i64 ((m + 1 : Nat) : Int) ∧ v = .int .i32 (va (c - 224) f m) ∧ Good (m + 1) f) (fun _ i => k - (RowKit.intOf i).toNat)
 case atStart => exact ⟨0, by omega, rfl, by rw [E0.out]; rfl, fun j a b => by omega⟩
 case round =>
  obtain ⟨m, hmk, rfl, rfl, hg⟩ := hrel
  have HG := Lib.hid hg
  have hvb := HV.out m hg
  clear hg
  by_cases hlt : m + 1 < k
  ·have hcm := (HB.out (m + 1) hlt).1
   have hb8 := (HB.out (m + 1) hlt).2
   have hm2 : m ≤ 2 := by omega
   have hvb' : va (c - 224) f m ≤ 8388607 := by
    have : 64 ^ m ≤ 64 ^ 2 := Nat.pow_le_pow_right (by omega) hm2
    omega
   obtain ⟨x, hx⟩ : ∃ x, f (m + 1) = x := ⟨_, rfl⟩
   rw [hx] at hcm hb8
   have HX := Lib.hid hx
   have hva : va (c - 224) f (m + 1) = 64 * va (c - 224) f m + x - 128 := by rw [← hx]; rfl
   have HA := Lib.hid hva
   clear hx hva
   obtain ⟨V, hV⟩ : ∃ V, va (c - 224) f m = V := ⟨_, rfl⟩
   rw [hV] at hvb' hvb ⊢
   have HW := Lib.hid hV
   clear hV hvb
   have b0 : (0 : Int) ≤ (V : Int) := by omega
   have b1 : (V : Int) ≤ 8388607 := by omega
   have b2 : (0 : Int) ≤ (m : Int) := by omega
   have b3 : (m : Int) + 1 < (k : Int) := by omega
   by_cases c1 : x < 128
   ·have t1 : decide ((x : Int) < 128) = true := by simp; omega
    go_wp2
    go_ret2
    exact ⟨by rw [begC_bad (fun h => by have := (h (m + 1) (by omega) hlt).1; have := HX.out; omega)]; rfl, rfl⟩
   ·by_cases c2 : 192 ≤ x
    ·have t1 : decide ((x : Int) < 128) = false := by simp; omega
     have t2 : (192 : Int) ≤ (x : Int) := by omega
     go_wp2
     go_ret2
     exact ⟨by rw [begC_bad (fun h => by have := (h (m + 1) (by omega) hlt).2; have := HX.out; omega)]; rfl, rfl⟩
    ·have t1 : decide ((x : Int) < 128) = false := by simp; omega
     have t2 : (x : Int) < 192 := by omega
     have t3 : (128 : Int) ≤ (x : Int) := by omega
     go_wp2
     go_round
     case rel => exact ⟨m + 1, by omega, by go_num, by
      rw [HA.out, HW.out]
      congr 1
      omega, fun j a bj => by
      rcases Nat.lt_or_ge m j with q | q
      ·obtain rfl : j = m + 1 := by omega
       have := HX.out
       omega
      ·exact HG.out j a (by omega)⟩
     case measure => simp [RowKit.intOf]; omega
  ·obtain rfl : k = m + 1 := by omega
   have kk : ((m : Int) + 1 < (m : Int) + 1) = False := by simp
   obtain ⟨V, hV⟩ : ∃ V, va (c - 224) f m = V := ⟨_, rfl⟩
   rw [hV] at hvb ⊢
   have HW := Lib.hid hV
   clear hV
   have HS := fun q (h1 : m + 1 ≤ q) (h2 : q ≤ 3) => sHi_le (V := V) (C := 16) (k := m + 1) (N := 3) (m := q) (by simpa using hvb) (by omega) h1 h2 (by omega)
   have HS := Lib.hid HS
   clear hvb
   go_wp2
   go_loop [10, 11, 12] (fun lo hi i => ∃ q : Nat, m + 1 ≤ q ∧ q ≤ 3 ∧ i = .int .i64 (q : Int) ∧ lo = .int .i32 (sLo V (m + 1) q) ∧ hi = .int .i32 (sHi V (m + 1) q)) (fun _ _ i => 3 - (RowKit.intOf i).toNat)
   case atStart => exact ⟨m + 1, by omega, by omega, by go_num, by rw [sLo_self], by rw [sHi_self]⟩
   case round =>
    obtain ⟨q, hq1, hq2, rfl, rfl, rfl⟩ := hrel
    by_cases hqN : q < 3
    ·have w1 := HS.out (q + 1) (by omega) (by omega)
     have w2 := sLo_le V (m + 1) (q + 1)
     have s1 := sLo_succ V (m + 1) q hq1
     have s2 := sHi_succ V (m + 1) q hq1
     rw [s2] at w1 w2
     rw [s1] at w2
     have S1 := Lib.hid s1
     have S2 := Lib.hid s2
     clear s1 s2
     generalize sLo V (m + 1) q = L at *
     generalize sHi V (m + 1) q = H at *
     have b0 : (0 : Int) ≤ (L : Int) := by omega
     have b1 : (L : Int) ≤ 8388607 := by omega
     have b2 : (0 : Int) ≤ (H : Int) := by omega
     have b3 : (H : Int) ≤ 8388607 := by omega
     have b4 : (q : Int) < 3 := by omega
     go_wp2
     go_round
     case rel => exact ⟨q + 1, by omega, by omega, by go_num, by rw [S1.out]; go_num, by rw [S2.out]; go_num⟩
     case measure => simp [RowKit.intOf]; omega
    ·obtain rfl : q = 3 := by omega
     have hgk := HG.out
     have res : begC 3 (c - 224) 2048 65535 (m + 1) f = (if sHi V (m + 1) 3 < 2048 then (0, 0) else if 65535 < sLo V (m + 1) 3 then (0, 0) else if 55296 ≤ sLo V (m + 1) 3 ∧ sHi V (m + 1) 3 ≤ 57343 then (0, 0) else (sLo V (m + 1) 3, 3)) := by
      unfold begC
      rw [if_pos hgk, Nat.add_sub_cancel, HW.out]
     clear hgk
     have w1 := HS.out 3 (by omega) (by omega)
     have w2 := sLo_le V (m + 1) 3
     generalize sLo V (m + 1) 3 = L at *
     generalize sHi V (m + 1) 3 = H at *
     by_cases c1 : H < 2048
     ·have t1 : decide ((H : Int) < 2048) = true := by simp; omega
      rw [if_pos c1] at res
      have HF := Lib.hid res
      clear res
      go_wp2
      go_ret2
      exact ⟨by rw [HF.out]; rfl, rfl⟩
     ·have t1 : decide ((H : Int) < 2048) = false := by simp; omega
      rw [if_neg c1] at res
      by_cases c2 : 65535 < L
      ·have t2 : decide ((65535 : Int) < (L : Int)) = true := by simp; omega
       rw [if_pos c2] at res
       have HF := Lib.hid res
       clear res
       go_wp2
       go_ret2
       exact ⟨by rw [HF.out]; rfl, rfl⟩
      ·have t2 : decide ((65535 : Int) < (L : Int)) = false := by simp; omega
       rw [if_neg c2] at res
       by_cases c3 : 55296 ≤ L
       ·have t3 : decide ((55296 : Int) ≤ (L : Int)) = true := by simp; omega
        by_cases c4 : H ≤ 57343
        ·have t4 : decide ((H : Int) ≤ 57343) = true := by simp; omega
         rw [if_pos ⟨c3, c4⟩] at res
         have HF := Lib.hid res
         clear res
         go_wp2
         go_ret2
         exact ⟨by rw [HF.out]; rfl, rfl⟩
        ·have t4 : decide ((H : Int) ≤ 57343) = false := by simp; omega
         rw [if_neg (fun h => c4 h.2)] at res
         have HF := Lib.hid res
         clear res
         go_wp2
         go_ret2
         exact ⟨by rw [HF.out]; rfl, rfl⟩
       ·have t3 : decide ((55296 : Int) ≤ (L : Int)) = false := by simp; omega
        rw [if_neg (fun h => c3 h.1)] at res
        have HF := Lib.hid res
        clear res
        go_wp2
        go_ret2
        exact ⟨by rw [HF.out]; rfl, rfl⟩
theorem beg_4 (b off k cap : Nat) (f : Nat → Nat) (w : World) (hB : Bs w b off k f) (hk : 1 ≤ k) (hkN : k ≤ 4) (h0 : 240 ≤ f 0 ∧ f 0 < 248) :
  Calls Tryz.prog 109 #[.slice (some ⟨b, off, none⟩) k cap] w fun e w' => e = .returned (.tuple #[.int .i32 (begC 4 (f 0 - 240) 65536 1114111 k f).1, .int .i64 (begC 4 (f 0 - 240) 65536 1114111 k f).2]) ∧ w = w' := by
 have hc := (hB 0 (by omega)).1
 simp only [Nat.add_zero] at hc
 have k0 : (0 : Int) < (k : Int) := by omega
 have kN : ¬ ((4 : Int) < (k : Int)) := by omega
 have hVle : ∀ m, Good (m + 1) f → va (f 0 - 240) f m + 1 ≤ 8 * 64 ^ m := fun m => va_le (by omega) m
 obtain ⟨c, hcc⟩ : ∃ c, f 0 = c := ⟨_, rfl⟩
 rw [hcc] at hc h0 hVle ⊢
 clear hcc
 obtain ⟨d0, d1⟩ : (240 : Int) ≤ (c : Int) ∧ (c : Int) < 248 := by omega
 have e0 : ((c : Int) - 240) = ((c - 240 : Nat) : Int) := by omega
 have E0 := Lib.hid e0
 clear e0
 have HB := Lib.hid hB
 have HV := Lib.hid hVle
 clear hB hVle
 go_enter Tryz.func109, Tryz.ntmps109
 go_wp2
 go_loop [5, 9] (fun v i => ∃ m : Nat, m + 1 ≤ k ∧ i = .int .i64 ((m + 1 : Nat) : Int) ∧ v = .int .i32 (va (c - 240) f m) ∧ Good (m + 1) f) (fun _ i => k - (RowKit.intOf i).toNat)
 case atStart => exact ⟨0, by omega, rfl, by rw [E0.out]; rfl, fun j a b => by omega⟩
 case round =>
  obtain ⟨m, hmk, rfl, rfl, hg⟩ := hrel
  have HG := Lib.hid hg
  have hvb := HV.out m hg
  clear hg
  by_cases hlt : m + 1 < k
  ·have hcm := (HB.out (m + 1) hlt).1
   have hb8 := (HB.out (m + 1) hlt).2
   have hm2 : m ≤ 2 := by omega
   have hvb' : va (c - 240) f m ≤ 8388607 := by
    have : 64 ^ m ≤ 64 ^ 2 := Nat.pow_le_pow_right (by omega) hm2
    omega
   obtain ⟨x, hx⟩ : ∃ x, f (m + 1) = x := ⟨_, rfl⟩
   rw [hx] at hcm hb8
   have HX := Lib.hid hx
   have hva : va (c - 240) f (m + 1) = 64 * va (c - 240) f m + x - 128 := by rw [← hx]; rfl
   have HA := Lib.hid hva
   clear hx hva
   obtain ⟨V, hV⟩ : ∃ V, va (c - 240) f m = V := ⟨_, rfl⟩
   rw [hV] at hvb' hvb ⊢
   have HW := Lib.hid hV
   clear hV hvb
   have b0 : (0 : Int) ≤ (V : Int) := by omega
   have b1 : (V : Int) ≤ 8388607 := by omega
   have b2 : (0 : Int) ≤ (m : Int) := by omega
   have b3 : (m : Int) + 1 < (k : Int) := by omega
   by_cases c1 : x < 128
   ·have t1 : decide ((x : Int) < 128) = true := by simp; omega
    go_wp2
    go_ret2
    exact ⟨by rw [begC_bad (fun h => by have := (h (m + 1) (by omega) hlt).1; have := HX.out; omega)]; rfl, rfl⟩
   ·by_cases c2 : 192 ≤ x
    ·have t1 : decide ((x : Int) < 128) = false := by simp; omega
     have t2 : (192 : Int) ≤ (x : Int) := by omega
     go_wp2
     go_ret2
     exact ⟨by rw [begC_bad (fun h => by have := (h (m + 1) (by omega) hlt).2; have := HX.out; omega)]; rfl, rfl⟩
    ·have t1 : decide ((x : Int) < 128) = false := by simp; omega
     have t2 : (x : Int) < 192 := by omega
     have t3 : (128 : Int) ≤ (x : Int) := by omega
     go_wp2
     go_round
     case rel => exact ⟨m + 1, by omega, by go_num, by
      rw [HA.out, HW.out]
      congr 1
      omega, fun j a bj => by
      rcases Nat.lt_or_ge m j with q | q
      ·obtain rfl : j = m + 1 := by omega
       have := HX.out
       omega
      ·exact HG.out j a (by omega)⟩
     case measure => simp [RowKit.intOf]; omega
  ·obtain rfl : k = m + 1 := by omega
   have kk : ((m : Int) + 1 < (m : Int) + 1) = False := by simp
   obtain ⟨V, hV⟩ : ∃ V, va (c - 240) f m = V := ⟨_, rfl⟩
   rw [hV] at hvb ⊢
   have HW := Lib.hid hV
   clear hV
   have HS := fun q (h1 : m + 1 ≤ q) (h2 : q ≤ 4) => sHi_le (V := V) (C := 8) (k := m + 1) (N := 4) (m := q) (by simpa using hvb) (by omega) h1 h2 (by omega)
   have HS := Lib.hid HS
   clear hvb
   go_wp2
   go_loop [10, 11, 12] (fun lo hi i => ∃ q : Nat, m + 1 ≤ q ∧ q ≤ 4 ∧ i = .int .i64 (q : Int) ∧ lo = .int .i32 (sLo V (m + 1) q) ∧ hi = .int .i32 (sHi V (m + 1) q)) (fun _ _ i => 4 - (RowKit.intOf i).toNat)
   case atStart => exact ⟨m + 1, by omega, by omega, by go_num, by rw [sLo_self], by rw [sHi_self]⟩
   case round =>
    obtain ⟨q, hq1, hq2, rfl, rfl, rfl⟩ := hrel
    by_cases hqN : q < 4
    ·have w1 := HS.out (q + 1) (by omega) (by omega)
     have w2 := sLo_le V (m + 1) (q + 1)
     have s1 := sLo_succ V (m + 1) q hq1
     have s2 := sHi_succ V (m + 1) q hq1
     rw [s2] at w1 w2
     rw [s1] at w2
     have S1 := Lib.hid s1
     have S2 := Lib.hid s2
     clear s1 s2
     generalize sLo V (m + 1) q = L at *
     generalize sHi V (m + 1) q = H at *
     have b0 : (0 : Int) ≤ (L : Int) := by omega
     have b1 : (L : Int) ≤ 8388607 := by omega
     have b2 : (0 : Int) ≤ (H : Int) := by omega
     have b3 : (H : Int) ≤ 8388607 := by omega
     have b4 : (q : Int) < 4 := by omega
     go_wp2
     go_round
     case rel => exact ⟨q + 1, by omega, by omega, by go_num, by rw [S1.out]; go_num, by rw [S2.out]; go_num⟩
     case measure => simp [RowKit.intOf]; omega
    ·obtain rfl : q = 4 := by omega
     have hgk := HG.out
     have res : begC 4 (c - 240) 65536 1114111 (m + 1) f = (if sHi V (m + 1) 4 < 65536 then (0, 0) else if 1114111 < sLo V (m + 1) 4 then (0, 0) else if 55296 ≤ sLo V (m + 1) 4 ∧ sHi V (m + 1) 4 ≤ 57343 then (0, 0) else (sLo V (m + 1) 4, 4)) := by
      unfold begC
      rw [if_pos hgk, Nat.add_sub_cancel, HW.out]
     clear hgk
     have w1 := HS.out 4 (by omega) (by omega)
     have w2 := sLo_le V (m + 1) 4
     generalize sLo V (m + 1) 4 = L at *
     generalize sHi V (m + 1) 4 = H at *
     by_cases c1 : H < 65536
     ·have t1 : decide ((H : Int) < 65536) = true := by simp; omega
      rw [if_pos c1] at res
      have HF := Lib.hid res
      clear res
      go_wp2
      go_ret2
      exact ⟨by rw [HF.out]; rfl, rfl⟩
     ·have t1 : decide ((H : Int) < 65536) = false := by simp; omega
      rw [if_neg c1] at res
      by_cases c2 : 1114111 < L
      ·have t2 : decide ((1114111 : Int) < (L : Int)) = true := by simp; omega
       rw [if_pos c2] at res
       have HF := Lib.hid res
       clear res
       go_wp2
       go_ret2
       exact ⟨by rw [HF.out]; rfl, rfl⟩
      ·have t2 : decide ((1114111 : Int) < (L : Int)) = false := by simp; omega
       rw [if_neg c2] at res
       by_cases c3 : 55296 ≤ L
       ·have t3 : decide ((55296 : Int) ≤ (L : Int)) = true := by simp; omega
        by_cases c4 : H ≤ 57343
        ·have t4 : decide ((H : Int) ≤ 57343) = true := by simp; omega
         rw [if_pos ⟨c3, c4⟩] at res
         have HF := Lib.hid res
         clear res
         go_wp2
         go_ret2
         exact ⟨by rw [HF.out]; rfl, rfl⟩
        ·have t4 : decide ((H : Int) ≤ 57343) = false := by simp; omega
         rw [if_neg (fun h => c4 h.2)] at res
         have HF := Lib.hid res
         clear res
         go_wp2
         go_ret2
         exact ⟨by rw [HF.out]; rfl, rfl⟩
       ·have t3 : decide ((55296 : Int) ≤ (L : Int)) = false := by simp; omega
        rw [if_neg (fun h => c3 h.1)] at res
        have HF := Lib.hid res
        clear res
        go_wp2
        go_ret2
        exact ⟨by rw [HF.out]; rfl, rfl⟩
end Go.Proofs.YtfafhbgkmlmmdaaGreatDoor.S
