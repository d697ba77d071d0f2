/-
  
  
  
  
-/
import Derived.Test.YtojinnnpfjhifaaGreatDoorYqm
import Derived.Test.YtojinnnpfjhifaaGreatDoorYqh
import Derived.Deep.MidRow
import Derived.Test.YtojinnnpfjhifaaGreatDoorYqc
import Derived.Deep.CutRange
import Derived.Test.YtojinnnpfjhifaaGreatDoorYqb
import Derived.Test.YtojinnnpfjhifaaGreatDoorYqd
namespace Go.Proofs.YtojinnnpfjhifaaGreatDoor.K
open Go.RowKit Go.Shelf Go.Lib Go.Maps
attribute [local irreducible] nmL ofN
theorem putL_lt (l : List Int) : ∀ x ∈ putL l, x < 256 := fun x hx => by
 obtain ⟨r, _, h⟩ := List.mem_flatMap.1 hx
 exact putN_lt r x h
theorem putL_app (l m : List Int) : putL (l ++ m) = putL l ++ putL m := by simp [putL]
theorem putL_len : ∀ l : List Int, (putL l).length ≤ 4 * l.length
 | [] => Nat.zero_le _
 | r :: t => by
  have h1 := putL_len t
  have h2 := putN_len r
  show (putN r ++ putL t).length ≤ _
  rw [List.length_append, List.length_cons]
  omega
def putK (l : List IT) (k : Nat) : List Nat := putL ((l.take k).map (·.r))
theorem putK_next {l : List IT} {k : Nat} {x : IT} (h : l[k]? = some x) : putK l (k + 1) = putK l k ++ putN x.r := by
 unfold putK
 rw [List.take_add_one, h, List.map_append, putL_app]
 simp [putL]
theorem putK_len (l : List IT) (k : Nat) : (putK l k).length ≤ 4 * k := by
 have h1 := putL_len ((l.take k).map (·.r))
 rw [List.length_map, List.length_take] at h1
 unfold putK
 omega
set_option maxRecDepth 100000 in
set_option maxHeartbeats 8000000 in
theorem text12_any (l : List IT) (A : Option Addr) (c : Nat) (w : World) (h : IsA w w.heap.size l A c) (hr : ∀ x ∈ l, -2147483648 ≤ x.r ∧ x.r ≤ 2147483647) (hl : l.length ≤ 10000) :
  Calls Tryz.prog 12 #[.slice A l.length c] w fun e w' => e = .returned (.string ⟨(u8s (putL (l.map (·.r)))).toArray⟩) ∧ Below w.heap.size w w' := by
 have hle := h.le
 have hmx := h.mx
 obtain ⟨n, hn⟩ : ∃ q, l.length = q := ⟨_, rfl⟩
 rw [hn] at hle hl ⊢
 obtain ⟨S5, hS5⟩ : ∃ q : ByteArray, (⟨(u8s (putL (l.map (·.r)))).toArray⟩ : ByteArray) = q := ⟨_, rfl⟩
 rw [hS5]
 have HH := Lib.hid (And.intro h (And.intro hr (And.intro hn hl)))
 have HS := Lib.hid hS5
 clear h hr hn hl hS5
 go_enter Tryz.func12, Tryz.ntmps12
 go_wp2_with fail
 go_loopw [3, 5, 8] (fun o _ i wr => ∃ k : Nat, k ≤ n ∧ i = .int .i64 (k : Int) ∧ OwnB wr w.heap.size (putK l k) o ∧ Below w.heap.size w wr) (fun _ _ i _ => n - (RowKit.intOf i).toNat)
 case atStart => exact ⟨0, Nat.zero_le _, rfl, ownB_nil _ _, Below.refl _ _⟩
 case round =>
  obtain ⟨k, hk, rfl, ho, hb⟩ := hrel
  by_cases hkn : k < n
  case pos =>
   have i1 : (k : Int) < (n : Int) := by omega
   have ik : (k : Int) ≤ 100000 := by have := HH.out.2.2.2; omega
   obtain ⟨x, hx⟩ : ∃ x, l[k]? = some x := ⟨_, List.getElem?_eq_getElem (by rw [HH.out.2.2.1]; exact hkn)⟩
   have hxr := HH.out.2.1 x (List.mem_of_getElem? hx)
   have hpk := putK_next hx
   obtain ⟨b, o, rfl, hbb, a0, a1, a2, a3, a4, a5, a6⟩ := isA_cells ((HH.out.1.below hb).mono (Nat.le_refl _)) hx
   obtain ⟨xr, xa, xz, xf, xx, xn, xp⟩ := x
   simp only at a0 a1 a2 a3 a4 a5 a6 hxr hpk
   have aa1 : wr.cell? ⟨b, o + (k * 7 + 1), none⟩ = some (.int .i64 xa) := by rw [← Nat.add_assoc]; exact a1
   have aa2 : wr.cell? ⟨b, o + (k * 7 + 2), none⟩ = some (.int .i64 xz) := by rw [← Nat.add_assoc]; exact a2
   have aa3 : wr.cell? ⟨b, o + (k * 7 + 3), none⟩ = some (.bool xf) := by rw [← Nat.add_assoc]; exact a3
   have aa4 : wr.cell? ⟨b, o + (k * 7 + 4), none⟩ = some (.bool xx) := by rw [← Nat.add_assoc]; exact a4
   have aa5 : wr.cell? ⟨b, o + (k * 7 + 5), none⟩ = some (.bool xn) := by rw [← Nat.add_assoc]; exact a5
   have aa6 : wr.cell? ⟨b, o + (k * 7 + 6), none⟩ = some (.bool xp) := by rw [← Nat.add_assoc]; exact a6
   have t8 := cells_new wr #[.int .i32 xr, .int .i64 xa, .int .i64 xz, .bool xf, .bool xx, .bool xn, .bool xp] 42
   have b8 := below_new wr (.cells #[.int .i32 xr, .int .i64 xa, .int .i64 xz, .bool xf, .bool xx, .bool xn, .bool xp] 42)
   obtain ⟨W8, hW8⟩ : ∃ V, wr.alloc (.cells #[.int .i32 xr, .int .i64 xa, .int .i64 xz, .bool xf, .bool xx, .bool xn, .bool xp] 42) = V := ⟨_, rfl⟩
   rw [hW8] at t8 b8
   have y0 : W8.cell? ⟨wr.heap.size, 0, none⟩ = some (.int .i32 xr) := t8.cell 0
   have C := sput_any xr hxr.1 hxr.2 W8
   have HK := Lib.hid (And.intro hW8 (And.intro (ho.below b8) (And.intro (hb.trans (b8.mono hb.size)) hpk)))
   clear ho hb hx hxr hpk hbb t8 b8 hW8
   go_upto_region 5 with fail
   rw [HK.out.1]
   clear a0 a1 a2 a3 a4 a5 a6 aa1 aa2 aa3 aa4 aa5 aa6
   go_wp2_with fail
   refine C.mono ?_
   rintro e w5 ⟨A5, c5, rfl, hB5, b5⟩
   have own5 := HK.out.2.1.below b5
   have b15 : Below w.heap.size w w5 := HK.out.2.2.1.trans (b5.mono HK.out.2.2.1.size)
   have H5 := Lib.hid (And.intro own5 (And.intro hB5 (And.intro b15 (show (putK l k).length + (putN xr).length ≤ 1000000 by
    have h1 := putK_len l k
    have h2 := putN_len xr
    have h3 := HH.out.2.2.2
    omega))))
   obtain ⟨P, hP⟩ : ∃ q, (putN xr).length = q := ⟨_, rfl⟩
   have HP := Lib.hid hP
   rw [hP]
   clear own5 hB5 b15 b5 C y0 hP
   go_wp2_with (at_builtin; refine wpList_appBs rfl (.tmp 12) (.tmp 15) rfl w.heap.size _ (putK l k) (putN xr) rfl H5.out.1 A5 P c5 HP.out rfl H5.out.2.1 (by rw [← HP.out]; exact H5.out.2.2.2) H5.out.2.2.1.size ?_)
   intro v' w6 o6 b6
   have hend : ∃ j : Nat, j ≤ n ∧ Value.int .i64 ((k : Int) + 1) = .int .i64 (j : Int) ∧ OwnB w6 w.heap.size (putK l j) v' ∧ Below w.heap.size w w6 := ⟨k + 1, by omega, by simp, by rw [HK.out.2.2.2]; exact o6, H5.out.2.2.1.trans b6⟩
   have HEND := Lib.hid hend
   clear hend o6 b6
   go_wp2_with fail
   go_roundw
   case rel => exact HEND.out
   case measure => simp [RowKit.intOf]; omega
  case neg =>
   obtain rfl : k = n := by omega
   have i1 : ¬ (k : Int) < (k : Int) := by omega
   have hkk : putK l k = putL (l.map (·.r)) := by
    unfold putK
    rw [List.take_of_length_le (by rw [HH.out.2.2.1]; exact Nat.le_refl _)]
   rw [hkk] at ho
   obtain ⟨A5, c5, rfl, hB5⟩ := OwnB.by ho (putL_lt _)
   have hcv := conv_by hB5
   obtain ⟨P, hP⟩ : ∃ q, (putL (l.map (·.r))).length = q := ⟨_, rfl⟩
   rw [HS.out, hP] at hcv
   rw [hP]
   have HZ := Lib.hid hb
   clear hb ho hB5 hkk hkn hk hP
   go_wp2_with fail
   go_ret
   exact ⟨rfl, HZ.out⟩
end Go.Proofs.YtojinnnpfjhifaaGreatDoor.K

namespace Go.Proofs.YtojinnnpfjhifaaGreatDoor.K.R
open Go.RowKit Go.Shelf Go.Lib Go.Maps
def rowI : List IT → List Value
 | [] => []
 | x :: r => (itA x).toList ++ rowI r
theorem rowI_app : ∀ l m : List IT, rowI (l ++ m) = rowI l ++ rowI m
 | [], m => by simp [rowI]
 | t :: r, m => by
  show (itA t).toList ++ rowI (r ++ m) = ((itA t).toList ++ rowI r) ++ _
  rw [rowI_app r m]
  simp
theorem rowI_snoc (x : IT) (l : List IT) : rowI (l ++ [x]) = rowI l ++ (itA x).toList := by
 rw [rowI_app]
 simp [rowI]
theorem rowI_len : ∀ l : List IT, (rowI l).length = l.length * 7
 | [] => rfl
 | x :: r => by
  show ((itA x).toList ++ rowI r).length = _
  rw [List.length_append, rowI_len r]
  simp [itA]
  omega
theorem rowI_at : ∀ (l : List IT) (i : Nat) (x : IT), l[i]? = some x → ∀ j, j < 7 → (rowI l)[i * 7 + j]? = (itA x)[j]?
 | [], i, a, h, _, _ => by simp at h
 | x :: l, 0, a, h, j, hj => by
  simp at h
  subst h
  rw [show rowI (x :: l) = (itA x).toList ++ rowI l from rfl, Nat.zero_mul, Nat.zero_add, List.getElem?_append_left (by simpa [itA] using hj)]
  simp
 | x :: l, i + 1, a, h, j, hj => by
  have ih := rowI_at l i a (by simpa using h) j hj
  rw [show rowI (x :: l) = (itA x).toList ++ rowI l from rfl, List.getElem?_append_right (by simp [itA]; omega)]
  rw [← ih]
  congr 1
  simp [itA]
  omega
theorem rowI_one : ∀ (l : List IT), ∀ u ∈ rowI l, u.oneCell' = true
 | [], u, h => by simp [rowI] at h
 | x :: r, u, h => by
  rcases List.mem_append.1 h with h | h
  ·simp [itA] at h
   rcases h with rfl | rfl | rfl | rfl | rfl | rfl | rfl <;> rfl
  ·exact rowI_one r u h
def OwnIt (w : World) (base : Nat) (l : List IT) (v : Value) : Prop := w.ownsRow base 30 7 v l.length (rowI l)
theorem OwnIt.below {w w' : World} {base : Nat} {l : List IT} {v : Value} (h : OwnIt w base l v) (hb : Below w.heap.size w w') : OwnIt w' base l v := ownsRow_below h hb
theorem ownIt_nil (w : World) (base : Nat) : OwnIt w base [] (.slice none 0 0) := ⟨rfl, .inl ⟨rfl, rfl⟩⟩
theorem OwnIt.lower {w : World} {base b2 : Nat} {l : List IT} {v : Value} (h : OwnIt w base l v) (hb : b2 ≤ base) : OwnIt w b2 l v := by
 refine ⟨h.1, ?_⟩
 rcases h.2 with h2 | ⟨g, cap, cur, h1, h2, h3⟩
 ·exact .inl h2
 ·exact .inr ⟨g, cap, cur, h1, by omega, h3⟩
structure IsA (w : World) (B : Nat) (l : List IT) (A : Option Addr) (c : Nat) : Prop where
 le : l.length ≤ c
 mx : c ≤ maxLen
 r : ∀ (i : Nat) (x : IT), l[i]? = some x → ∃ b o, A = some ⟨b, o, none⟩ ∧ b < B ∧ ∀ j u, (itA x)[j]? = some u → w.cell? ⟨b, o + (i * 7 + j), none⟩ = some u
theorem IsA.below {w w' : World} {B : Nat} {l : List IT} {A : Option Addr} {c : Nat} (h : IsA w B l A c) (hb : Below B w w') : IsA w' B l A c :=
 ⟨h.le, h.mx, fun i a ha => by
  obtain ⟨b, o, e, h1, h2⟩ := h.r i a ha
  exact ⟨b, o, e, h1, fun j u hu => (hb.cell (p := ⟨b, _, none⟩) h1).trans (h2 j u hu)⟩⟩
theorem IsA.mono {w : World} {B B' : Nat} {l : List IT} {A : Option Addr} {c : Nat} (h : IsA w B l A c) (hB : B ≤ B') : IsA w B' l A c :=
 ⟨h.le, h.mx, fun i a ha => by
  obtain ⟨b, o, e, h1, h2⟩ := h.r i a ha
  exact ⟨b, o, e, by omega, h2⟩⟩
theorem IsA.on {w w' : World} {l : List IT} {A : Option Addr} {c : Nat} (h : IsA w w.heap.size l A c) (hb : Below w.heap.size w w') : IsA w' w'.heap.size l A c := (h.below hb).mono hb.size
theorem IsA.of_own {w : World} {base : Nat} {l : List IT} {v : Value} (h : OwnIt w base l v) : ∃ A c, v = .slice A l.length c ∧ IsA w w.heap.size l A c := by
 rcases h.2 with ⟨h1, h2⟩ | ⟨g, cap, cur, h1, h2, h3, h4, h5, h6, h7⟩
 ·have hn : l = [] := List.eq_nil_of_length_eq_zero h2
  subst hn
  exact ⟨none, 0, by rw [h1]; rfl, ⟨Nat.le_refl _, by unfold maxLen; omega, fun i a ha => by simp at ha⟩⟩
 ·refine ⟨_, cap, h1, ⟨h4, h5, fun i a ha => ⟨g, 0, rfl, (Array.getElem?_eq_some_iff.1 h3).1, fun j u hu => ?_⟩⟩⟩
  have hj : j < 7 := by
   have := (Array.getElem?_eq_some_iff.1 hu).1
   simpa [itA] using this
  have c := World.ownsRow.cells h (g := g) (by rw [h1]; rfl) (i * 7 + j) u ((rowI_at l i a ha j hj).trans hu)
  rw [add0] at c
  rw [Nat.zero_add]
  exact c
theorem info30 : (Tryz.prog.info? 30).map (fun i => (i.zero.map (fun z => z.cells.size), i.size, i.bytes)) = some (some 7, 7, 32) := by kernel_rfl
theorem info30_parts : ∃ i z, Tryz.prog.info? 30 = some i ∧ i.zero = some z ∧ i.size = 7 ∧ i.bytes = 32 ∧ z.cells.size = 7 := by
 have h := info30
 cases e : Tryz.prog.info? 30 with
 | none => rw [e] at h; simp at h
 | some i =>
  rw [e] at h
  cases e2 : i.zero with
  | none => simp [e2] at h
  | some z =>
   simp [e2] at h
   exact ⟨i, z, rfl, e2, h.2.1, h.2.2, h.1⟩
theorem wpList_appI {ops : Array Oper} {rest : List Oper} {o : Oper} {a : Act} {w : World} {Q : Exit → Act → World → Prop} (hgd : o.guard = none) (s x : Operand)
  (ho : o.op = .call { callee := .builtin .append, args := #[s, x], argTypes := #[26, 26] }) (base : Nat) (v : Value) (l : List IT) (t : IT) (hs : a.eval s = v) (w0 : World) (h0 : OwnIt w0 base l v) (hw0 : w0.alloc (.cells (itA t) 30) = w)
  (hx : a.eval x = .slice (some ⟨w0.heap.size, 0, none⟩) 1 1) (h63 : l.length ≤ 1000000) (hbase : base ≤ w0.heap.size)
  (h : ∀ g cap w', OwnIt w' base (l ++ [t]) (.slice (some ⟨g, 0, none⟩) (l.length + 1) cap) → Below base w0 w' → (∀ k, k < w0.heap.size → v.ownBlock ≠ some k → w'.heap[k]? = w0.heap[k]?) → (v.ownBlock = some g ∨ w0.heap.size ≤ g) → wpList Tryz.prog ops Q rest (a.put o.dst (.slice (some ⟨g, 0, none⟩) (l.length + 1) cap)) w') :
  wpList Tryz.prog ops Q (o :: rest) a w := by
 obtain ⟨i, z, hi, hz, hs1, hb1, hz1⟩ := info30_parts
 subst hw0
 have al := below_new w0 (.cells (itA t) 30)
 have hown := h0.below al
 have hsz : base ≤ (w0.alloc (.cells (itA t) 30)).heap.size := by rw [World.size_alloc]; omega
 refine wpList_append_lies _ hgd s x 26 ho base 30 i _ 7 32 Tryz.underlying26 hi hz hs1 hb1 hz1 (by decide) v l.length (rowI l) hs hown ⟨w0.heap.size, 0, none⟩ 1 1 (itA t).toList hx rfl (World.news_of_block (by simpa using heap_alloc_new w0 (.cells (itA t) 30))) (fun u hu => ?_) (by decide) (by unfold maxLen; omega) (by omega) hsz _ rfl ?_
 ·simp [itA] at hu
  rcases hu with rfl | rfl | rfl | rfl | rfl | rfl | rfl <;> rfl
 ·intro g cap w' h1 h2 h3 _
  refine h g cap w' ?_ ?_ (fun k hk hn => (h2.block k (by rw [World.size_alloc]; omega) (fun e => hn e.symm)).trans (al.block k hk)) (h3.imp id (fun e => by rw [e, World.size_alloc]; omega))
  ·unfold OwnIt
   rw [rowI_snoc, List.length_append]
   exact h1
  ·refine (al.mono hbase).trans ⟨h2.os, h2.tape, h2.output, h2.size, fun k hk => h2.block k (by omega) (fun e => by have := (own_block_lt hown k e.symm).1; omega)⟩
theorem wpList_appIs {ops : Array Oper} {rest : List Oper} {o : Oper} {a : Act} {w : World} {Q : Exit → Act → World → Prop} (hgd : o.guard = none) (s x : Operand)
  (ho : o.op = .call { callee := .builtin .append, args := #[s, x], argTypes := #[26, 26] }) (base : Nat) (v : Value) (l m : List IT) (hs : a.eval s = v) (h0 : OwnIt w base l v) (A : Option Addr) (c : Nat) (hm : IsA w w.heap.size m A c) (hne : m ≠ [])
  (hx : a.eval x = .slice A m.length c) (h63 : l.length + m.length ≤ 1000000) (hbase : base ≤ w.heap.size)
  (h : ∀ g cap w', OwnIt w' base (l ++ m) (.slice (some ⟨g, 0, none⟩) (l.length + m.length) cap) → w.grownBy w' v.ownBlock → wpList Tryz.prog ops Q rest (a.put o.dst (.slice (some ⟨g, 0, none⟩) (l.length + m.length) cap)) w') :
  wpList Tryz.prog ops Q (o :: rest) a w := by
 obtain ⟨i, z, hi, hz, hs1, hb1, hz1⟩ := info30_parts
 have hlen : 0 < m.length := List.length_pos_iff.2 hne
 obtain ⟨b, o', rfl, hbl, _⟩ := hm.r 0 m[0] (List.getElem?_eq_getElem hlen)
 refine wpList_append_lies _ hgd s x 26 ho base 30 i _ 7 32 Tryz.underlying26 hi hz hs1 hb1 hz1 (by decide) v l.length (rowI l) hs h0 ⟨b, o', none⟩ m.length c (rowI m) hx (rowI_len m) (fun j u hu => ?_) (rowI_one m) hlen (by unfold maxLen; omega) (by omega) hbase _ rfl ?_
 ·have hj : j < m.length * 7 := by have := (List.getElem?_eq_some_iff.1 hu).1; rwa [rowI_len] at this
  have hd : j / 7 < m.length := by omega
  obtain ⟨b', o2, e, _, hc⟩ := hm.r (j / 7) m[j / 7] (List.getElem?_eq_getElem hd)
  cases e
  have e2 := rowI_at m (j / 7) _ (List.getElem?_eq_getElem hd) (j % 7) (by omega)
  rw [show j / 7 * 7 + j % 7 = j by omega, hu] at e2
  have := hc (j % 7) u e2.symm
  rw [Addr.add_mid, show o' + j = o' + (j / 7 * 7 + j % 7) by omega]
  exact this
 ·intro g cap w' h1 h2 _ _
  refine h g cap w' ?_ h2
  unfold OwnIt
  rw [rowI_app, List.length_append]
  exact h1
theorem isA_cells {w : World} {B : Nat} {l : List IT} {A : Option Addr} {c : Nat} (h : IsA w B l A c) {i : Nat} {x : IT} (hx : l[i]? = some x) : ∃ b o, A = some ⟨b, o, none⟩ ∧ b < B ∧
  w.cell? ⟨b, o + i * 7, none⟩ = some (.int .i32 x.r) ∧ w.cell? ⟨b, o + i * 7 + 1, none⟩ = some (.int .i64 x.at_) ∧ w.cell? ⟨b, o + i * 7 + 2, none⟩ = some (.int .i64 x.sz) ∧ w.cell? ⟨b, o + i * 7 + 3, none⟩ = some (.bool x.f) ∧
  w.cell? ⟨b, o + i * 7 + 4, none⟩ = some (.bool x.x) ∧ w.cell? ⟨b, o + i * 7 + 5, none⟩ = some (.bool x.n) ∧ w.cell? ⟨b, o + i * 7 + 6, none⟩ = some (.bool x.p) := by
 obtain ⟨b, o, e, h1, h2⟩ := h.r i x hx
 simp only [← Nat.add_assoc] at h2
 exact ⟨b, o, e, h1, h2 0 _ rfl, h2 1 _ rfl, h2 2 _ rfl, h2 3 _ rfl, h2 4 _ rfl, h2 5 _ rfl, h2 6 _ rfl⟩
end Go.Proofs.YtojinnnpfjhifaaGreatDoor.K.R

namespace Go.Proofs.YtojinnnpfjhifaaGreatDoor.K
open Go.RowKit Go.Shelf Go.Lib Go.Maps
attribute [local irreducible] nmL ofN
set_option maxRecDepth 100000 in
set_option maxHeartbeats 8000000 in
theorem items_is (l : List IT) (A A' : Option Addr) (c c' : Nat) (w : World) (h : IsA w w.heap.size l A c) (h' : R.IsA w w.heap.size l A' c') (hl : l.length ≤ 10000) :
  Calls Tryz.prog 11 #[.slice A l.length c, .slice A' l.length c'] w fun e w' => e = .returned (.bool true) ∧ Below w.heap.size w w' := by
 have hle := h.le
 have hmx := h.mx
 have hle' := h'.le
 have hmx' := h'.mx
 obtain ⟨n, hn⟩ : ∃ q, l.length = q := ⟨_, rfl⟩
 rw [hn] at hle hle' hl ⊢
 have HH := Lib.hid (And.intro h (And.intro h' (And.intro hn hl)))
 clear h h' hn hl
 go_enter Tryz.func11, Tryz.ntmps11
 go_wp2_with fail
 go_loopw [5, 6, 7] (fun i _ _ wr => ∃ k : Nat, k ≤ n ∧ i = .int .i64 (k : Int) ∧ Below w.heap.size w wr) (fun i _ _ _ => n - (RowKit.intOf i).toNat)
 case atStart => exact ⟨0, Nat.zero_le _, rfl, Below.refl _ _⟩
 case round =>
  obtain ⟨k, hk, rfl, hb⟩ := hrel
  by_cases hkn : k < n
  case neg =>
   obtain rfl : k = n := by omega
   have i1 : ¬ (k : Int) < (k : Int) := by omega
   have HZ := Lib.hid hb
   clear hb hkn hk
   go_wp2_with fail
   go_ret
   exact ⟨rfl, HZ.out⟩
  case pos =>
   have i1 : (k : Int) < (n : Int) := by omega
   have ik : (k : Int) ≤ 100000 := by have := HH.out.2.2.2; omega
   obtain ⟨x, hx⟩ : ∃ x, l[k]? = some x := ⟨_, List.getElem?_eq_getElem (by rw [HH.out.2.2.1]; exact hkn)⟩
   obtain ⟨b1, o1, rfl, hb1, a0, a1, a2, a3, a4, a5, a6⟩ := isA_cells (HH.out.1.below hb) hx
   obtain ⟨b2, o2, rfl, hb2, d0, d1, d2, d3, d4, d5, d6⟩ := R.isA_cells (HH.out.2.1.below hb) hx
   obtain ⟨xr, xa, xz, xf, xx, xn, xp⟩ := x
   simp only at a0 a1 a2 a3 a4 a5 a6 d0 d1 d2 d3 d4 d5 d6
   have HB := Lib.hid hb
   clear hb hx hb1 hb2
   go_upto_region 6 with fail
   go_cut [6, 7] from 19 to 26 (fun a b wx => ∃ g h : Nat, a = .pointer (some ⟨g, 0, none⟩) ∧ b = .pointer (some ⟨h, 0, none⟩) ∧ Cells wx g 42 #[.int .i32 xr, .int .i64 xa, .int .i64 xz, .bool xf, .bool xx, .bool xn, .bool xp] ∧ Cells wx h 30 #[.int .i32 xr, .int .i64 xa, .int .i64 xz, .bool xf, .bool xx, .bool xn, .bool xp] ∧ Below w.heap.size w wx)
   case first =>
    have ag0 : ∀ P : Later (fun _ => False) wr, P.W.cell? ⟨b1, o1 + k * 7, none⟩ = some (.int .i32 xr) := fun P => cell_later a0 (fun hf => hf) P
    have ag1 : ∀ P : Later (fun _ => False) wr, P.W.cell? ⟨b1, o1 + k * 7 + 1, none⟩ = some (.int .i64 xa) := fun P => cell_later a1 (fun hf => hf) P
    have ah1 : ∀ P : Later (fun _ => False) wr, P.W.cell? ⟨b1, o1 + (k * 7 + 1), none⟩ = some (.int .i64 xa) := fun P => by rw [← Nat.add_assoc]; exact ag1 P
    have ag2 : ∀ P : Later (fun _ => False) wr, P.W.cell? ⟨b1, o1 + k * 7 + 2, none⟩ = some (.int .i64 xz) := fun P => cell_later a2 (fun hf => hf) P
    have ah2 : ∀ P : Later (fun _ => False) wr, P.W.cell? ⟨b1, o1 + (k * 7 + 2), none⟩ = some (.int .i64 xz) := fun P => by rw [← Nat.add_assoc]; exact ag2 P
    have ag3 : ∀ P : Later (fun _ => False) wr, P.W.cell? ⟨b1, o1 + k * 7 + 3, none⟩ = some (.bool xf) := fun P => cell_later a3 (fun hf => hf) P
    have ah3 : ∀ P : Later (fun _ => False) wr, P.W.cell? ⟨b1, o1 + (k * 7 + 3), none⟩ = some (.bool xf) := fun P => by rw [← Nat.add_assoc]; exact ag3 P
    have ag4 : ∀ P : Later (fun _ => False) wr, P.W.cell? ⟨b1, o1 + k * 7 + 4, none⟩ = some (.bool xx) := fun P => cell_later a4 (fun hf => hf) P
    have ah4 : ∀ P : Later (fun _ => False) wr, P.W.cell? ⟨b1, o1 + (k * 7 + 4), none⟩ = some (.bool xx) := fun P => by rw [← Nat.add_assoc]; exact ag4 P
    have ag5 : ∀ P : Later (fun _ => False) wr, P.W.cell? ⟨b1, o1 + k * 7 + 5, none⟩ = some (.bool xn) := fun P => cell_later a5 (fun hf => hf) P
    have ah5 : ∀ P : Later (fun _ => False) wr, P.W.cell? ⟨b1, o1 + (k * 7 + 5), none⟩ = some (.bool xn) := fun P => by rw [← Nat.add_assoc]; exact ag5 P
    have ag6 : ∀ P : Later (fun _ => False) wr, P.W.cell? ⟨b1, o1 + k * 7 + 6, none⟩ = some (.bool xp) := fun P => cell_later a6 (fun hf => hf) P
    have ah6 : ∀ P : Later (fun _ => False) wr, P.W.cell? ⟨b1, o1 + (k * 7 + 6), none⟩ = some (.bool xp) := fun P => by rw [← Nat.add_assoc]; exact ag6 P
    have dg0 : ∀ P : Later (fun _ => False) wr, P.W.cell? ⟨b2, o2 + k * 7, none⟩ = some (.int .i32 xr) := fun P => cell_later d0 (fun hf => hf) P
    have dg1 : ∀ P : Later (fun _ => False) wr, P.W.cell? ⟨b2, o2 + k * 7 + 1, none⟩ = some (.int .i64 xa) := fun P => cell_later d1 (fun hf => hf) P
    have dh1 : ∀ P : Later (fun _ => False) wr, P.W.cell? ⟨b2, o2 + (k * 7 + 1), none⟩ = some (.int .i64 xa) := fun P => by rw [← Nat.add_assoc]; exact dg1 P
    have dg2 : ∀ P : Later (fun _ => False) wr, P.W.cell? ⟨b2, o2 + k * 7 + 2, none⟩ = some (.int .i64 xz) := fun P => cell_later d2 (fun hf => hf) P
    have dh2 : ∀ P : Later (fun _ => False) wr, P.W.cell? ⟨b2, o2 + (k * 7 + 2), none⟩ = some (.int .i64 xz) := fun P => by rw [← Nat.add_assoc]; exact dg2 P
    have dg3 : ∀ P : Later (fun _ => False) wr, P.W.cell? ⟨b2, o2 + k * 7 + 3, none⟩ = some (.bool xf) := fun P => cell_later d3 (fun hf => hf) P
    have dh3 : ∀ P : Later (fun _ => False) wr, P.W.cell? ⟨b2, o2 + (k * 7 + 3), none⟩ = some (.bool xf) := fun P => by rw [← Nat.add_assoc]; exact dg3 P
    have dg4 : ∀ P : Later (fun _ => False) wr, P.W.cell? ⟨b2, o2 + k * 7 + 4, none⟩ = some (.bool xx) := fun P => cell_later d4 (fun hf => hf) P
    have dh4 : ∀ P : Later (fun _ => False) wr, P.W.cell? ⟨b2, o2 + (k * 7 + 4), none⟩ = some (.bool xx) := fun P => by rw [← Nat.add_assoc]; exact dg4 P
    have dg5 : ∀ P : Later (fun _ => False) wr, P.W.cell? ⟨b2, o2 + k * 7 + 5, none⟩ = some (.bool xn) := fun P => cell_later d5 (fun hf => hf) P
    have dh5 : ∀ P : Later (fun _ => False) wr, P.W.cell? ⟨b2, o2 + (k * 7 + 5), none⟩ = some (.bool xn) := fun P => by rw [← Nat.add_assoc]; exact dg5 P
    have dg6 : ∀ P : Later (fun _ => False) wr, P.W.cell? ⟨b2, o2 + k * 7 + 6, none⟩ = some (.bool xp) := fun P => cell_later d6 (fun hf => hf) P
    have dh6 : ∀ P : Later (fun _ => False) wr, P.W.cell? ⟨b2, o2 + (k * 7 + 6), none⟩ = some (.bool xp) := fun P => by rw [← Nat.add_assoc]; exact dg6 P
    clear a0 a1 a2 a3 a4 a5 a6 d0 d1 d2 d3 d4 d5 d6
    refine wp_region_mixF (fun i => if 8 ≤ i then 2 else 0) [0, 1, 2, 3, 4, 5, 6, 7] 4 (fun w' => ∃ P : Later (fun _ => False) wr, w' = P.W) (by kernel_rfl) (by kernel_rfl) ⟨⟨_, Fz.drew wr⟩, rfl⟩ ?_
    simp only [opsAt, List.filterMap_cons, List.filterMap_nil, List.getElem?_toArray, List.getElem?_cons_zero, List.getElem?_cons_succ]
    change wpQuiet _ _ _ _ [_, _, _, _, _, _, _, _] _
    repeat (go_big_quiet_step (fail))
    refine wpQuiet_nil ?_
    clear ag0 ag1 ag2 ag3 ag4 ag5 ag6 ah1 ah2 ah3 ah4 ah5 ah6 dg0 dg1 dg2 dg3 dg4 dg5 dg6 dh1 dh2 dh3 dh4 dh5 dh6
    have zd : Fz (fun _ => False) wr { wr with drawn := wr.drawn + 1 } := Fz.drew wr
    obtain ⟨wd, hwd⟩ : ∃ V, ({ wr with drawn := wr.drawn + 1 } : World) = V := ⟨_, rfl⟩
    rw [hwd] at zd ⊢
    clear hwd
    have HD := Lib.hid zd
    clear zd
    refine wpFreeM_step [8, 9] (by kernel_rfl) ⟨?_, ?_, trivial⟩
    ·refine wpOp_of_list rfl ?_
     have t1 := cells_new wd #[.int .i32 0, .int .i64 0, .int .i64 0, .bool false, .bool false, .bool false, .bool false] 42
     have b1' := below_new wd (.cells #[.int .i32 0, .int .i64 0, .int .i64 0, .bool false, .bool false, .bool false, .bool false] 42)
     obtain ⟨W1, hW1⟩ : ∃ V, wd.alloc (.cells #[.int .i32 0, .int .i64 0, .int .i64 0, .bool false, .bool false, .bool false, .bool false] 42) = V := ⟨_, rfl⟩
     rw [hW1] at t1 b1'
     have t2 := cells_new W1 #[.int .i32 0, .int .i64 0, .int .i64 0, .bool false, .bool false, .bool false, .bool false] 30
     have b2' := below_new W1 (.cells #[.int .i32 0, .int .i64 0, .int .i64 0, .bool false, .bool false, .bool false, .bool false] 30)
     obtain ⟨W2, hW2⟩ : ∃ V, W1.alloc (.cells #[.int .i32 0, .int .i64 0, .int .i64 0, .bool false, .bool false, .bool false, .bool false] 30) = V := ⟨_, rfl⟩
     rw [hW2] at t2 b2'
     have z1 := HD.out.trans (Fz.of_below b1')
     have z2 := z1.trans (Fz.of_below b2')
     have s1 : wd.heap.size < W1.heap.size := t1.lt
     have t1' := t1.on b2'
     have sd : wr.heap.size ≤ wd.heap.size := HD.out.size
     have HW1 := Lib.hid hW1
     have HW2 := Lib.hid hW2
     have H2 := Lib.hid (And.intro z1 (And.intro z2 (And.intro t1' (And.intro t2 (And.intro s1 sd)))))
     clear t1 b1' t2 b2' z1 z2 s1 t1' sd hW1 hW2
     go_wp2_with fail
     rw [HW1.out]
     refine ⟨⟨⟨_, H2.out.1⟩, rfl⟩, ?_⟩
     refine wpFreeM_step [9] (by kernel_rfl) ⟨?_, trivial⟩
     refine wpOp_of_list rfl ?_
     go_wp2_with fail
     rw [HW2.out]
     refine ⟨⟨⟨_, H2.out.2.1⟩, rfl⟩, ?_⟩
     obtain ⟨f0, f1, f2, f3, f4, f5, f6⟩ := froz7 (H2.out.2.2.1)
     obtain ⟨y0, y1, y2, y3, y4, y5, y6⟩ := cell7 (H2.out.2.2.1)
     refine wpFreeM_step [10] (by kernel_rfl) ⟨?_, trivial⟩
     refine wpOp_of_list rfl ?_
     go_wp2_with fail
     obtain ⟨W3, hW3, z7, kk⟩ := set7 (H2.out.2.2.1) (.int .i32 xr) (.int .i64 xa) (.int .i64 xz) (.bool xf) (.bool xx) (.bool xn) (.bool xp)
     rw [hW3]
     clear hW3 f0 f1 f2 f3 f4 f5 f6 y0 y1 y2 y3 y4 y5 y6
     have zz : Fz (fun _ => False) wr W3 := ⟨kk.os.trans H2.out.2.1.os, kk.tape.trans H2.out.2.1.tape, kk.output.trans H2.out.2.1.output, Nat.le_trans H2.out.2.1.size kk.size, fun z hz hn => (kk.block z (Nat.lt_of_lt_of_le hz H2.out.2.1.size) (by have h1 := H2.out.2.2.2.2; omega)).trans (H2.out.2.1.block z hz hn)⟩
     have oo' : Cells W3 W1.heap.size 30 #[.int .i32 0, .int .i64 0, .int .i64 0, .bool false, .bool false, .bool false, .bool false] := kk.cellsK (show ¬ W1.heap.size = wd.heap.size by have h1 := H2.out.2.2.2.2; omega) H2.out.2.2.2.1
     have H3 := Lib.hid (And.intro zz (And.intro z7 oo'))
     clear zz z7 oo' kk
     refine ⟨⟨⟨_, H3.out.1⟩, rfl⟩, ?_⟩
     obtain ⟨f0, f1, f2, f3, f4, f5, f6⟩ := froz7 (H3.out.2.2)
     obtain ⟨y0, y1, y2, y3, y4, y5, y6⟩ := cell7 (H3.out.2.2)
     refine wpFreeM_step [11] (by kernel_rfl) ⟨?_, trivial⟩
     refine wpOp_of_list rfl ?_
     go_wp2_with fail
     obtain ⟨W4, hW4, z7, kk⟩ := set7 (H3.out.2.2) (.int .i32 xr) (.int .i64 xa) (.int .i64 xz) (.bool xf) (.bool xx) (.bool xn) (.bool xp)
     rw [hW4]
     clear hW4 f0 f1 f2 f3 f4 f5 f6 y0 y1 y2 y3 y4 y5 y6
     have zz : Fz (fun _ => False) wr W4 := ⟨kk.os.trans H3.out.1.os, kk.tape.trans H3.out.1.tape, kk.output.trans H3.out.1.output, Nat.le_trans H3.out.1.size kk.size, fun z hz hn => (kk.block z (Nat.lt_of_lt_of_le hz H3.out.1.size) (by have h1 := H2.out.2.2.2.2; omega)).trans (H3.out.1.block z hz hn)⟩
     have oo' : Cells W4 wd.heap.size 42 #[.int .i32 xr, .int .i64 xa, .int .i64 xz, .bool xf, .bool xx, .bool xn, .bool xp] := kk.cellsK (show ¬ wd.heap.size = W1.heap.size by have h1 := H2.out.2.2.2.2; omega) H3.out.2.1
     have H4 := Lib.hid (And.intro zz (And.intro z7 oo'))
     clear zz z7 oo' kk
     refine ⟨⟨⟨_, H4.out.1⟩, rfl⟩, ?_⟩
     unfold wpFreeM
     go_wp2_with fail
     go_meet
     exact ⟨_, _, rfl, rfl, H4.out.2.2, H4.out.2.1, HB.out.trans (H4.out.1.below HB.out.size (fun _ _ hf => hf))⟩
    ·refine wpOp_of_list rfl ?_
     have t1 := cells_new wd #[.int .i32 0, .int .i64 0, .int .i64 0, .bool false, .bool false, .bool false, .bool false] 30
     have b1' := below_new wd (.cells #[.int .i32 0, .int .i64 0, .int .i64 0, .bool false, .bool false, .bool false, .bool false] 30)
     obtain ⟨W1, hW1⟩ : ∃ V, wd.alloc (.cells #[.int .i32 0, .int .i64 0, .int .i64 0, .bool false, .bool false, .bool false, .bool false] 30) = V := ⟨_, rfl⟩
     rw [hW1] at t1 b1'
     have t2 := cells_new W1 #[.int .i32 0, .int .i64 0, .int .i64 0, .bool false, .bool false, .bool false, .bool false] 42
     have b2' := below_new W1 (.cells #[.int .i32 0, .int .i64 0, .int .i64 0, .bool false, .bool false, .bool false, .bool false] 42)
     obtain ⟨W2, hW2⟩ : ∃ V, W1.alloc (.cells #[.int .i32 0, .int .i64 0, .int .i64 0, .bool false, .bool false, .bool false, .bool false] 42) = V := ⟨_, rfl⟩
     rw [hW2] at t2 b2'
     have z1 := HD.out.trans (Fz.of_below b1')
     have z2 := z1.trans (Fz.of_below b2')
     have s1 : wd.heap.size < W1.heap.size := t1.lt
     have t1' := t1.on b2'
     have sd : wr.heap.size ≤ wd.heap.size := HD.out.size
     have HW1 := Lib.hid hW1
     have HW2 := Lib.hid hW2
     have H2 := Lib.hid (And.intro z1 (And.intro z2 (And.intro t1' (And.intro t2 (And.intro s1 sd)))))
     clear t1 b1' t2 b2' z1 z2 s1 t1' sd hW1 hW2
     go_wp2_with fail
     rw [HW1.out]
     refine ⟨⟨⟨_, H2.out.1⟩, rfl⟩, ?_⟩
     refine wpFreeM_step [8] (by kernel_rfl) ⟨?_, trivial⟩
     refine wpOp_of_list rfl ?_
     go_wp2_with fail
     rw [HW2.out]
     refine ⟨⟨⟨_, H2.out.2.1⟩, rfl⟩, ?_⟩
     obtain ⟨f0, f1, f2, f3, f4, f5, f6⟩ := froz7 (H2.out.2.2.2.1)
     obtain ⟨y0, y1, y2, y3, y4, y5, y6⟩ := cell7 (H2.out.2.2.2.1)
     refine wpFreeM_step [10] (by kernel_rfl) ⟨?_, trivial⟩
     refine wpOp_of_list rfl ?_
     go_wp2_with fail
     obtain ⟨W3, hW3, z7, kk⟩ := set7 (H2.out.2.2.2.1) (.int .i32 xr) (.int .i64 xa) (.int .i64 xz) (.bool xf) (.bool xx) (.bool xn) (.bool xp)
     rw [hW3]
     clear hW3 f0 f1 f2 f3 f4 f5 f6 y0 y1 y2 y3 y4 y5 y6
     have zz : Fz (fun _ => False) wr W3 := ⟨kk.os.trans H2.out.2.1.os, kk.tape.trans H2.out.2.1.tape, kk.output.trans H2.out.2.1.output, Nat.le_trans H2.out.2.1.size kk.size, fun z hz hn => (kk.block z (Nat.lt_of_lt_of_le hz H2.out.2.1.size) (by have h1 := H2.out.2.2.2.2; omega)).trans (H2.out.2.1.block z hz hn)⟩
     have oo' : Cells W3 wd.heap.size 30 #[.int .i32 0, .int .i64 0, .int .i64 0, .bool false, .bool false, .bool false, .bool false] := kk.cellsK (show ¬ wd.heap.size = W1.heap.size by have h1 := H2.out.2.2.2.2; omega) H2.out.2.2.1
     have H3 := Lib.hid (And.intro zz (And.intro z7 oo'))
     clear zz z7 oo' kk
     refine ⟨⟨⟨_, H3.out.1⟩, rfl⟩, ?_⟩
     obtain ⟨f0, f1, f2, f3, f4, f5, f6⟩ := froz7 (H3.out.2.2)
     obtain ⟨y0, y1, y2, y3, y4, y5, y6⟩ := cell7 (H3.out.2.2)
     refine wpFreeM_step [11] (by kernel_rfl) ⟨?_, trivial⟩
     refine wpOp_of_list rfl ?_
     go_wp2_with fail
     obtain ⟨W4, hW4, z7, kk⟩ := set7 (H3.out.2.2) (.int .i32 xr) (.int .i64 xa) (.int .i64 xz) (.bool xf) (.bool xx) (.bool xn) (.bool xp)
     rw [hW4]
     clear hW4 f0 f1 f2 f3 f4 f5 f6 y0 y1 y2 y3 y4 y5 y6
     have zz : Fz (fun _ => False) wr W4 := ⟨kk.os.trans H3.out.1.os, kk.tape.trans H3.out.1.tape, kk.output.trans H3.out.1.output, Nat.le_trans H3.out.1.size kk.size, fun z hz hn => (kk.block z (Nat.lt_of_lt_of_le hz H3.out.1.size) (by have h1 := H2.out.2.2.2.2; omega)).trans (H3.out.1.block z hz hn)⟩
     have oo' : Cells W4 W1.heap.size 42 #[.int .i32 xr, .int .i64 xa, .int .i64 xz, .bool xf, .bool xx, .bool xn, .bool xp] := kk.cellsK (show ¬ W1.heap.size = wd.heap.size by have h1 := H2.out.2.2.2.2; omega) H3.out.2.1
     have H4 := Lib.hid (And.intro zz (And.intro z7 oo'))
     clear zz z7 oo' kk
     refine ⟨⟨⟨_, H4.out.1⟩, rfl⟩, ?_⟩
     unfold wpFreeM
     go_wp2_with fail
     go_meet
     exact ⟨_, _, rfl, rfl, H4.out.2.2, H4.out.2.1, HB.out.trans (H4.out.1.below HB.out.size (fun _ _ hf => hf))⟩
   case rest =>
    obtain ⟨g, h, rfl, rfl, cg, ch, hb⟩ := hcut
    clear a0 a1 a2 a3 a4 a5 a6 d0 d1 d2 d3 d4 d5 d6
    have m0 : wc.cell? ⟨g, 0, none⟩ = some (.int .i32 xr) := cg.cell 0
    have m1 : wc.cell? ⟨g, 1, none⟩ = some (.int .i64 xa) := cg.cell 1
    have m2 : wc.cell? ⟨g, 2, none⟩ = some (.int .i64 xz) := cg.cell 2
    have m3 : wc.cell? ⟨g, 3, none⟩ = some (.bool xf) := cg.cell 3
    have m4 : wc.cell? ⟨g, 4, none⟩ = some (.bool xx) := cg.cell 4
    have m5 : wc.cell? ⟨g, 5, none⟩ = some (.bool xn) := cg.cell 5
    have m6 : wc.cell? ⟨g, 6, none⟩ = some (.bool xp) := cg.cell 6
    have p0 : wc.cell? ⟨h, 0, none⟩ = some (.int .i32 xr) := ch.cell 0
    have p1 : wc.cell? ⟨h, 1, none⟩ = some (.int .i64 xa) := ch.cell 1
    have p2 : wc.cell? ⟨h, 2, none⟩ = some (.int .i64 xz) := ch.cell 2
    have p3 : wc.cell? ⟨h, 3, none⟩ = some (.bool xf) := ch.cell 3
    have p4 : wc.cell? ⟨h, 4, none⟩ = some (.bool xx) := ch.cell 4
    have p5 : wc.cell? ⟨h, 5, none⟩ = some (.bool xn) := ch.cell 5
    have p6 : wc.cell? ⟨h, 6, none⟩ = some (.bool xp) := ch.cell 6
    have hend : ∃ j : Nat, j ≤ n ∧ Value.int .i64 ((k : Int) + 1) = .int .i64 (j : Int) ∧ Below w.heap.size w wc := ⟨k + 1, by omega, by simp, hb⟩
    have HEND := Lib.hid hend
    clear hend cg ch hb
    go_wp2_with fail
    go_roundw
    case rel => exact HEND.out
    case measure => simp [RowKit.intOf]; omega
end Go.Proofs.YtojinnnpfjhifaaGreatDoor.K

namespace Go.Proofs.YtojinnnpfjhifaaGreatDoor.S
open Go.RowKit Go.Shelf
open Go.Lib
def va (v0 : Nat) (f : Nat → Nat) : Nat → Nat
  | 0 => v0
  | m + 1 => 64 * va v0 f m + f (m + 1) - 128
def Good (k : Nat) (f : Nat → Nat) : Prop := ∀ j, 1 ≤ j → j < k → 128 ≤ f j ∧ f j ≤ 191
theorem va_le {v0 C : Nat} {f : Nat → Nat} (h : v0 + 1 ≤ C) (m : Nat) : Good (m + 1) f → va v0 f m + 1 ≤ C * 64 ^ m := by
  induction m with
  | zero =>
    intro _
    have e : va v0 f 0 = v0 := rfl
    rw [e, Nat.pow_zero, Nat.mul_one]
    exact h
  | succ m ih =>
    intro hg
    have hr := ih (fun j a b => hg j a (by omega))
    have h1 := hg (m + 1) (by omega) (by omega)
    rw [Nat.pow_succ, ← Nat.mul_assoc]
    generalize C * 64 ^ m = X at *
    have e : va v0 f (m + 1) = 64 * va v0 f m + f (m + 1) - 128 := rfl
    rw [e]
    omega
def sLo (V k m : Nat) : Nat := V * 64 ^ (m - k)
def sHi (V k m : Nat) : Nat := (V + 1) * 64 ^ (m - k) - 1
theorem sLo_self (V k : Nat) : sLo V k k = V := by simp [sLo]
theorem sHi_self (V k : Nat) : sHi V k k = V := by simp [sHi]
theorem sLo_succ (V k m : Nat) (h : k ≤ m) : sLo V k (m + 1) = 64 * sLo V k m := by
  unfold sLo
  rw [show m + 1 - k = (m - k) + 1 from by omega, Nat.pow_succ, ← Nat.mul_assoc, Nat.mul_comm]
theorem sHi_succ (V k m : Nat) (h : k ≤ m) : sHi V k (m + 1) = 64 * sHi V k m + 63 := by
  unfold sHi
  rw [show m + 1 - k = (m - k) + 1 from by omega, Nat.pow_succ, ← Nat.mul_assoc]
  have : 1 ≤ (V + 1) * 64 ^ (m - k) := Nat.mul_pos (by omega) (Nat.pos_of_ne_zero (by simp))
  omega
theorem sLo_le (V k m : Nat) : sLo V k m ≤ sHi V k m := by
  unfold sLo sHi
  have : 1 ≤ 64 ^ (m - k) := Nat.pos_of_ne_zero (by simp)
  rw [Nat.add_mul]
  omega
theorem sHi_le {V C k N m : Nat} (hV : V + 1 ≤ C * 64 ^ (k - 1)) (hk : 1 ≤ k) (hm : k ≤ m) (hN : m ≤ N) (hC : C * 64 ^ (N - 1) ≤ 2097152) : sHi V k m ≤ 2097151 := by
  unfold sHi
  have h1 : (V + 1) * 64 ^ (m - k) ≤ C * 64 ^ (k - 1) * 64 ^ (m - k) := Nat.mul_le_mul_right _ hV
  rw [Nat.mul_assoc, ← Nat.pow_add] at h1
  have h2 : 64 ^ (k - 1 + (m - k)) ≤ 64 ^ (N - 1) := Nat.pow_le_pow_right (by omega) (by omega)
  have h3 := Nat.mul_le_mul_left C h2
  omega
open Classical in
noncomputable def begC (N v0 least most k : Nat) (f : Nat → Nat) : Nat × Nat :=
  if Good k f then
    (if sHi (va v0 f (k - 1)) k N < least then (0, 0)
     else if most < sLo (va v0 f (k - 1)) k N then (0, 0)
     else if 55296 ≤ sLo (va v0 f (k - 1)) k N ∧ sHi (va v0 f (k - 1)) k N ≤ 57343 then (0, 0)
     else (sLo (va v0 f (k - 1)) k N, N))
  else (0, 0)
theorem begC_bad {N v0 least most k : Nat} {f : Nat → Nat} (h : ¬ Good k f) : begC N v0 least most k f = (0, 0) := by unfold begC; rw [if_neg h]
set_option maxHeartbeats 1000000 in
set_option maxRecDepth 100000 in
theorem beg_1 (b off k cap : Nat) (f : Nat → Nat) (w : World) (hB : Bs w b off k f) (hk : 1 ≤ k) (h0 : f 0 < 128) :
    Calls Tryz.prog 52 #[.slice (some ⟨b, off, none⟩) k cap] w fun e w' => e = .returned (.tuple #[.int .i32 (f 0), .int .i64 1]) ∧ w = w' := by
  have hc := (hB 0 (by omega)).1
  simp only [Nat.add_zero] at hc
  have k0 : (0 : Int) < (k : Int) := by omega
  have d0 : ((f 0 : Nat) : Int) < 128 := by omega
  clear hB
  generalize f 0 = c at *
  go_enter Tryz.func52, Tryz.ntmps52
  go_wp2
  go_ret2
  exact ⟨rfl, rfl⟩
set_option maxHeartbeats 1000000 in
set_option maxRecDepth 100000 in
theorem beg_0 (b off k cap : Nat) (f : Nat → Nat) (w : World) (hB : Bs w b off k f) (hk : 1 ≤ k) (h0 : (128 ≤ f 0 ∧ f 0 < 192) ∨ 248 ≤ f 0) :
    Calls Tryz.prog 52 #[.slice (some ⟨b, off, none⟩) k cap] w fun e w' => e = .returned (.tuple #[.int .i32 0, .int .i64 0]) ∧ w = w' := by
  have hc := (hB 0 (by omega)).1
  simp only [Nat.add_zero] at hc
  have k0 : (0 : Int) < (k : Int) := by omega
  have hb8 := (hB 0 (by omega)).2
  clear hB
  generalize f 0 = c at *
  have hb9 : (c : Int) < 256 := by omega
  have hb7 : (0 : Int) ≤ (c : Int) := by omega
  rcases h0 with ⟨h1, h2⟩ | h1
  · have d0 : ¬ ((c : Nat) : Int) < 128 := by omega
    have d1 : ((c : Nat) : Int) < 192 := by omega
    go_enter Tryz.func52, Tryz.ntmps52
    go_wp2
    go_ret2
    exact ⟨rfl, rfl⟩
  · have d0 : 248 ≤ ((c : Nat) : Int) := by omega
    go_enter Tryz.func52, Tryz.ntmps52
    go_wp2
    go_ret2
    exact ⟨rfl, rfl⟩
set_option maxHeartbeats 4000000 in
set_option maxRecDepth 100000 in
theorem beg_2 (b off k cap : Nat) (f : Nat → Nat) (w : World) (hB : Bs w b off k f) (hk : 1 ≤ k) (hkN : k ≤ 2) (h0 : 192 ≤ f 0 ∧ f 0 < 224) :
    Calls Tryz.prog 52 #[.slice (some ⟨b, off, none⟩) k cap] w fun e w' => e = .returned (.tuple #[.int .i32 (begC 2 (f 0 - 192) 128 2047 k f).1, .int .i64 (begC 2 (f 0 - 192) 128 2047 k f).2]) ∧ w = w' := by
  have hc := (hB 0 (by omega)).1
  simp only [Nat.add_zero] at hc
  have k0 : (0 : Int) < (k : Int) := by omega
  have kN : ¬ ((2 : Int) < (k : Int)) := by omega
  have hVle : ∀ m, Good (m + 1) f → va (f 0 - 192) f m + 1 ≤ 32 * 64 ^ m := fun m => va_le (by omega) m
  obtain ⟨c, hcc⟩ : ∃ c, f 0 = c := ⟨_, rfl⟩
  rw [hcc] at hc h0 hVle ⊢
  clear hcc
  obtain ⟨d0, d1⟩ : (192 : Int) ≤ (c : Int) ∧ (c : Int) < 224 := by omega
  have e0 : ((c : Int) - 192) = ((c - 192 : Nat) : Int) := by omega
  have E0 := Lib.hid e0
  clear e0
  have HB := Lib.hid hB
  have HV := Lib.hid hVle
  clear hB hVle
  go_enter Tryz.func52, Tryz.ntmps52
  go_wp2
  go_loop [5, 9] (fun v i => ∃ m : Nat, m + 1 ≤ k ∧ i = .int .i64 ((m + 1 : Nat) : Int) ∧ v = .int .i32 (va (c - 192) f m) ∧ Good (m + 1) f) (fun _ i => k - (RowKit.intOf i).toNat)
  case atStart => exact ⟨0, by omega, rfl, by rw [E0.out]; rfl, fun j a b => by omega⟩
  case round =>
    obtain ⟨m, hmk, rfl, rfl, hg⟩ := hrel
    have HG := Lib.hid hg
    have hvb := HV.out m hg
    clear hg
    by_cases hlt : m + 1 < k
    · have hcm := (HB.out (m + 1) hlt).1
      have hb8 := (HB.out (m + 1) hlt).2
      have hm2 : m ≤ 2 := by omega
      have hvb' : va (c - 192) f m ≤ 8388607 := by
        have : 64 ^ m ≤ 64 ^ 2 := Nat.pow_le_pow_right (by omega) hm2
        omega
      obtain ⟨x, hx⟩ : ∃ x, f (m + 1) = x := ⟨_, rfl⟩
      rw [hx] at hcm hb8
      have HX := Lib.hid hx
      have hva : va (c - 192) f (m + 1) = 64 * va (c - 192) f m + x - 128 := by rw [← hx]; rfl
      have HA := Lib.hid hva
      clear hx hva
      obtain ⟨V, hV⟩ : ∃ V, va (c - 192) f m = V := ⟨_, rfl⟩
      rw [hV] at hvb' hvb ⊢
      have HW := Lib.hid hV
      clear hV hvb
      have b0 : (0 : Int) ≤ (V : Int) := by omega
      have b1 : (V : Int) ≤ 8388607 := by omega
      have b2 : (0 : Int) ≤ (m : Int) := by omega
      have b3 : (m : Int) + 1 < (k : Int) := by omega
      by_cases c1 : x < 128
      · have t1 : decide ((x : Int) < 128) = true := by simp; omega
        go_wp2
        go_ret2
        exact ⟨by rw [begC_bad (fun h => by have := (h (m + 1) (by omega) hlt).1; have := HX.out; omega)]; rfl, rfl⟩
      · by_cases c2 : 192 ≤ x
        · have t1 : decide ((x : Int) < 128) = false := by simp; omega
          have t2 : (192 : Int) ≤ (x : Int) := by omega
          go_wp2
          go_ret2
          exact ⟨by rw [begC_bad (fun h => by have := (h (m + 1) (by omega) hlt).2; have := HX.out; omega)]; rfl, rfl⟩
        · have t1 : decide ((x : Int) < 128) = false := by simp; omega
          have t2 : (x : Int) < 192 := by omega
          have t3 : (128 : Int) ≤ (x : Int) := by omega
          go_wp2
          go_round
          case rel => exact ⟨m + 1, by omega, by go_num, by
            rw [HA.out, HW.out]
            congr 1
            omega, fun j a bj => by
            rcases Nat.lt_or_ge m j with q | q
            · obtain rfl : j = m + 1 := by omega
              have := HX.out
              omega
            · exact HG.out j a (by omega)⟩
          case measure => simp [RowKit.intOf]; omega
    · obtain rfl : k = m + 1 := by omega
      have kk : ((m : Int) + 1 < (m : Int) + 1) = False := by simp
      obtain ⟨V, hV⟩ : ∃ V, va (c - 192) f m = V := ⟨_, rfl⟩
      rw [hV] at hvb ⊢
      have HW := Lib.hid hV
      clear hV
      have HS := fun q (h1 : m + 1 ≤ q) (h2 : q ≤ 2) => sHi_le (V := V) (C := 32) (k := m + 1) (N := 2) (m := q) (by simpa using hvb) (by omega) h1 h2 (by omega)
      have HS := Lib.hid HS
      clear hvb
      go_wp2
      go_loop [10, 11, 12] (fun lo hi i => ∃ q : Nat, m + 1 ≤ q ∧ q ≤ 2 ∧ i = .int .i64 (q : Int) ∧ lo = .int .i32 (sLo V (m + 1) q) ∧ hi = .int .i32 (sHi V (m + 1) q)) (fun _ _ i => 2 - (RowKit.intOf i).toNat)
      case atStart => exact ⟨m + 1, by omega, by omega, by go_num, by rw [sLo_self], by rw [sHi_self]⟩
      case round =>
        obtain ⟨q, hq1, hq2, rfl, rfl, rfl⟩ := hrel
        by_cases hqN : q < 2
        · have w1 := HS.out (q + 1) (by omega) (by omega)
          have w2 := sLo_le V (m + 1) (q + 1)
          have s1 := sLo_succ V (m + 1) q hq1
          have s2 := sHi_succ V (m + 1) q hq1
          rw [s2] at w1 w2
          rw [s1] at w2
          have S1 := Lib.hid s1
          have S2 := Lib.hid s2
          clear s1 s2
          generalize sLo V (m + 1) q = L at *
          generalize sHi V (m + 1) q = H at *
          have b0 : (0 : Int) ≤ (L : Int) := by omega
          have b1 : (L : Int) ≤ 8388607 := by omega
          have b2 : (0 : Int) ≤ (H : Int) := by omega
          have b3 : (H : Int) ≤ 8388607 := by omega
          have b4 : (q : Int) < 2 := by omega
          go_wp2
          go_round
          case rel => exact ⟨q + 1, by omega, by omega, by go_num, by rw [S1.out]; go_num, by rw [S2.out]; go_num⟩
          case measure => simp [RowKit.intOf]; omega
        · obtain rfl : q = 2 := by omega
          have hgk := HG.out
          have res : begC 2 (c - 192) 128 2047 (m + 1) f = (if sHi V (m + 1) 2 < 128 then (0, 0) else if 2047 < sLo V (m + 1) 2 then (0, 0) else if 55296 ≤ sLo V (m + 1) 2 ∧ sHi V (m + 1) 2 ≤ 57343 then (0, 0) else (sLo V (m + 1) 2, 2)) := by
            unfold begC
            rw [if_pos hgk, Nat.add_sub_cancel, HW.out]
          clear hgk
          have w1 := HS.out 2 (by omega) (by omega)
          have w2 := sLo_le V (m + 1) 2
          generalize sLo V (m + 1) 2 = L at *
          generalize sHi V (m + 1) 2 = H at *
          by_cases c1 : H < 128
          · have t1 : decide ((H : Int) < 128) = true := by simp; omega
            rw [if_pos c1] at res
            have HF := Lib.hid res
            clear res
            go_wp2
            go_ret2
            exact ⟨by rw [HF.out]; rfl, rfl⟩
          · have t1 : decide ((H : Int) < 128) = false := by simp; omega
            rw [if_neg c1] at res
            by_cases c2 : 2047 < L
            · have t2 : decide ((2047 : Int) < (L : Int)) = true := by simp; omega
              rw [if_pos c2] at res
              have HF := Lib.hid res
              clear res
              go_wp2
              go_ret2
              exact ⟨by rw [HF.out]; rfl, rfl⟩
            · have t2 : decide ((2047 : Int) < (L : Int)) = false := by simp; omega
              rw [if_neg c2] at res
              by_cases c3 : 55296 ≤ L
              · have t3 : decide ((55296 : Int) ≤ (L : Int)) = true := by simp; omega
                by_cases c4 : H ≤ 57343
                · have t4 : decide ((H : Int) ≤ 57343) = true := by simp; omega
                  rw [if_pos ⟨c3, c4⟩] at res
                  have HF := Lib.hid res
                  clear res
                  go_wp2
                  go_ret2
                  exact ⟨by rw [HF.out]; rfl, rfl⟩
                · have t4 : decide ((H : Int) ≤ 57343) = false := by simp; omega
                  rw [if_neg (fun h => c4 h.2)] at res
                  have HF := Lib.hid res
                  clear res
                  go_wp2
                  go_ret2
                  exact ⟨by rw [HF.out]; rfl, rfl⟩
              · have t3 : decide ((55296 : Int) ≤ (L : Int)) = false := by simp; omega
                rw [if_neg (fun h => c3 h.1)] at res
                have HF := Lib.hid res
                clear res
                go_wp2
                go_ret2
                exact ⟨by rw [HF.out]; rfl, rfl⟩
set_option maxHeartbeats 4000000 in
set_option maxRecDepth 100000 in
theorem beg_3 (b off k cap : Nat) (f : Nat → Nat) (w : World) (hB : Bs w b off k f) (hk : 1 ≤ k) (hkN : k ≤ 3) (h0 : 224 ≤ f 0 ∧ f 0 < 240) :
    Calls Tryz.prog 52 #[.slice (some ⟨b, off, none⟩) k cap] w fun e w' => e = .returned (.tuple #[.int .i32 (begC 3 (f 0 - 224) 2048 65535 k f).1, .int .i64 (begC 3 (f 0 - 224) 2048 65535 k f).2]) ∧ w = w' := by
  have hc := (hB 0 (by omega)).1
  simp only [Nat.add_zero] at hc
  have k0 : (0 : Int) < (k : Int) := by omega
  have kN : ¬ ((3 : Int) < (k : Int)) := by omega
  have hVle : ∀ m, Good (m + 1) f → va (f 0 - 224) f m + 1 ≤ 16 * 64 ^ m := fun m => va_le (by omega) m
  obtain ⟨c, hcc⟩ : ∃ c, f 0 = c := ⟨_, rfl⟩
  rw [hcc] at hc h0 hVle ⊢
  clear hcc
  obtain ⟨d0, d1⟩ : (224 : Int) ≤ (c : Int) ∧ (c : Int) < 240 := by omega
  have e0 : ((c : Int) - 224) = ((c - 224 : Nat) : Int) := by omega
  have E0 := Lib.hid e0
  clear e0
  have HB := Lib.hid hB
  have HV := Lib.hid hVle
  clear hB hVle
  go_enter Tryz.func52, Tryz.ntmps52
  go_wp2
  go_loop [5, 9] (fun v i => ∃ m : Nat, m + 1 ≤ k ∧ i = .int .i64 ((m + 1 : Nat) : Int) ∧ v = .int .i32 (va (c - 224) f m) ∧ Good (m + 1) f) (fun _ i => k - (RowKit.intOf i).toNat)
  case atStart => exact ⟨0, by omega, rfl, by rw [E0.out]; rfl, fun j a b => by omega⟩
  case round =>
    obtain ⟨m, hmk, rfl, rfl, hg⟩ := hrel
    have HG := Lib.hid hg
    have hvb := HV.out m hg
    clear hg
    by_cases hlt : m + 1 < k
    · have hcm := (HB.out (m + 1) hlt).1
      have hb8 := (HB.out (m + 1) hlt).2
      have hm2 : m ≤ 2 := by omega
      have hvb' : va (c - 224) f m ≤ 8388607 := by
        have : 64 ^ m ≤ 64 ^ 2 := Nat.pow_le_pow_right (by omega) hm2
        omega
      obtain ⟨x, hx⟩ : ∃ x, f (m + 1) = x := ⟨_, rfl⟩
      rw [hx] at hcm hb8
      have HX := Lib.hid hx
      have hva : va (c - 224) f (m + 1) = 64 * va (c - 224) f m + x - 128 := by rw [← hx]; rfl
      have HA := Lib.hid hva
      clear hx hva
      obtain ⟨V, hV⟩ : ∃ V, va (c - 224) f m = V := ⟨_, rfl⟩
      rw [hV] at hvb' hvb ⊢
      have HW := Lib.hid hV
      clear hV hvb
      have b0 : (0 : Int) ≤ (V : Int) := by omega
      have b1 : (V : Int) ≤ 8388607 := by omega
      have b2 : (0 : Int) ≤ (m : Int) := by omega
      have b3 : (m : Int) + 1 < (k : Int) := by omega
      by_cases c1 : x < 128
      · have t1 : decide ((x : Int) < 128) = true := by simp; omega
        go_wp2
        go_ret2
        exact ⟨by rw [begC_bad (fun h => by have := (h (m + 1) (by omega) hlt).1; have := HX.out; omega)]; rfl, rfl⟩
      · by_cases c2 : 192 ≤ x
        · have t1 : decide ((x : Int) < 128) = false := by simp; omega
          have t2 : (192 : Int) ≤ (x : Int) := by omega
          go_wp2
          go_ret2
          exact ⟨by rw [begC_bad (fun h => by have := (h (m + 1) (by omega) hlt).2; have := HX.out; omega)]; rfl, rfl⟩
        · have t1 : decide ((x : Int) < 128) = false := by simp; omega
          have t2 : (x : Int) < 192 := by omega
          have t3 : (128 : Int) ≤ (x : Int) := by omega
          go_wp2
          go_round
          case rel => exact ⟨m + 1, by omega, by go_num, by
            rw [HA.out, HW.out]
            congr 1
            omega, fun j a bj => by
            rcases Nat.lt_or_ge m j with q | q
            · obtain rfl : j = m + 1 := by omega
              have := HX.out
              omega
            · exact HG.out j a (by omega)⟩
          case measure => simp [RowKit.intOf]; omega
    · obtain rfl : k = m + 1 := by omega
      have kk : ((m : Int) + 1 < (m : Int) + 1) = False := by simp
      obtain ⟨V, hV⟩ : ∃ V, va (c - 224) f m = V := ⟨_, rfl⟩
      rw [hV] at hvb ⊢
      have HW := Lib.hid hV
      clear hV
      have HS := fun q (h1 : m + 1 ≤ q) (h2 : q ≤ 3) => sHi_le (V := V) (C := 16) (k := m + 1) (N := 3) (m := q) (by simpa using hvb) (by omega) h1 h2 (by omega)
      have HS := Lib.hid HS
      clear hvb
      go_wp2
      go_loop [10, 11, 12] (fun lo hi i => ∃ q : Nat, m + 1 ≤ q ∧ q ≤ 3 ∧ i = .int .i64 (q : Int) ∧ lo = .int .i32 (sLo V (m + 1) q) ∧ hi = .int .i32 (sHi V (m + 1) q)) (fun _ _ i => 3 - (RowKit.intOf i).toNat)
      case atStart => exact ⟨m + 1, by omega, by omega, by go_num, by rw [sLo_self], by rw [sHi_self]⟩
      case round =>
        obtain ⟨q, hq1, hq2, rfl, rfl, rfl⟩ := hrel
        by_cases hqN : q < 3
        · have w1 := HS.out (q + 1) (by omega) (by omega)
          have w2 := sLo_le V (m + 1) (q + 1)
          have s1 := sLo_succ V (m + 1) q hq1
          have s2 := sHi_succ V (m + 1) q hq1
          rw [s2] at w1 w2
          rw [s1] at w2
          have S1 := Lib.hid s1
          have S2 := Lib.hid s2
          clear s1 s2
          generalize sLo V (m + 1) q = L at *
          generalize sHi V (m + 1) q = H at *
          have b0 : (0 : Int) ≤ (L : Int) := by omega
          have b1 : (L : Int) ≤ 8388607 := by omega
          have b2 : (0 : Int) ≤ (H : Int) := by omega
          have b3 : (H : Int) ≤ 8388607 := by omega
          have b4 : (q : Int) < 3 := by omega
          go_wp2
          go_round
          case rel => exact ⟨q + 1, by omega, by omega, by go_num, by rw [S1.out]; go_num, by rw [S2.out]; go_num⟩
          case measure => simp [RowKit.intOf]; omega
        · obtain rfl : q = 3 := by omega
          have hgk := HG.out
          have res : begC 3 (c - 224) 2048 65535 (m + 1) f = (if sHi V (m + 1) 3 < 2048 then (0, 0) else if 65535 < sLo V (m + 1) 3 then (0, 0) else if 55296 ≤ sLo V (m + 1) 3 ∧ sHi V (m + 1) 3 ≤ 57343 then (0, 0) else (sLo V (m + 1) 3, 3)) := by
            unfold begC
            rw [if_pos hgk, Nat.add_sub_cancel, HW.out]
          clear hgk
          have w1 := HS.out 3 (by omega) (by omega)
          have w2 := sLo_le V (m + 1) 3
          generalize sLo V (m + 1) 3 = L at *
          generalize sHi V (m + 1) 3 = H at *
          by_cases c1 : H < 2048
          · have t1 : decide ((H : Int) < 2048) = true := by simp; omega
            rw [if_pos c1] at res
            have HF := Lib.hid res
            clear res
            go_wp2
            go_ret2
            exact ⟨by rw [HF.out]; rfl, rfl⟩
          · have t1 : decide ((H : Int) < 2048) = false := by simp; omega
            rw [if_neg c1] at res
            by_cases c2 : 65535 < L
            · have t2 : decide ((65535 : Int) < (L : Int)) = true := by simp; omega
              rw [if_pos c2] at res
              have HF := Lib.hid res
              clear res
              go_wp2
              go_ret2
              exact ⟨by rw [HF.out]; rfl, rfl⟩
            · have t2 : decide ((65535 : Int) < (L : Int)) = false := by simp; omega
              rw [if_neg c2] at res
              by_cases c3 : 55296 ≤ L
              · have t3 : decide ((55296 : Int) ≤ (L : Int)) = true := by simp; omega
                by_cases c4 : H ≤ 57343
                · have t4 : decide ((H : Int) ≤ 57343) = true := by simp; omega
                  rw [if_pos ⟨c3, c4⟩] at res
                  have HF := Lib.hid res
                  clear res
                  go_wp2
                  go_ret2
                  exact ⟨by rw [HF.out]; rfl, rfl⟩
                · have t4 : decide ((H : Int) ≤ 57343) = false := by simp; omega
                  rw [if_neg (fun h => c4 h.2)] at res
                  have HF := Lib.hid res
                  clear res
                  go_wp2
                  go_ret2
                  exact ⟨by rw [HF.out]; rfl, rfl⟩
              · have t3 : decide ((55296 : Int) ≤ (L : Int)) = false := by simp; omega
                rw [if_neg (fun h => c3 h.1)] at res
                have HF := Lib.hid res
                clear res
                go_wp2
                go_ret2
                exact ⟨by rw [HF.out]; rfl, rfl⟩
set_option maxHeartbeats 4000000 in
set_option maxRecDepth 100000 in
theorem beg_4 (b off k cap : Nat) (f : Nat → Nat) (w : World) (hB : Bs w b off k f) (hk : 1 ≤ k) (hkN : k ≤ 4) (h0 : 240 ≤ f 0 ∧ f 0 < 248) :
    Calls Tryz.prog 52 #[.slice (some ⟨b, off, none⟩) k cap] w fun e w' => e = .returned (.tuple #[.int .i32 (begC 4 (f 0 - 240) 65536 1114111 k f).1, .int .i64 (begC 4 (f 0 - 240) 65536 1114111 k f).2]) ∧ w = w' := by
  have hc := (hB 0 (by omega)).1
  simp only [Nat.add_zero] at hc
  have k0 : (0 : Int) < (k : Int) := by omega
  have kN : ¬ ((4 : Int) < (k : Int)) := by omega
  have hVle : ∀ m, Good (m + 1) f → va (f 0 - 240) f m + 1 ≤ 8 * 64 ^ m := fun m => va_le (by omega) m
  obtain ⟨c, hcc⟩ : ∃ c, f 0 = c := ⟨_, rfl⟩
  rw [hcc] at hc h0 hVle ⊢
  clear hcc
  obtain ⟨d0, d1⟩ : (240 : Int) ≤ (c : Int) ∧ (c : Int) < 248 := by omega
  have e0 : ((c : Int) - 240) = ((c - 240 : Nat) : Int) := by omega
  have E0 := Lib.hid e0
  clear e0
  have HB := Lib.hid hB
  have HV := Lib.hid hVle
  clear hB hVle
  go_enter Tryz.func52, Tryz.ntmps52
  go_wp2
  go_loop [5, 9] (fun v i => ∃ m : Nat, m + 1 ≤ k ∧ i = .int .i64 ((m + 1 : Nat) : Int) ∧ v = .int .i32 (va (c - 240) f m) ∧ Good (m + 1) f) (fun _ i => k - (RowKit.intOf i).toNat)
  case atStart => exact ⟨0, by omega, rfl, by rw [E0.out]; rfl, fun j a b => by omega⟩
  case round =>
    obtain ⟨m, hmk, rfl, rfl, hg⟩ := hrel
    have HG := Lib.hid hg
    have hvb := HV.out m hg
    clear hg
    by_cases hlt : m + 1 < k
    · have hcm := (HB.out (m + 1) hlt).1
      have hb8 := (HB.out (m + 1) hlt).2
      have hm2 : m ≤ 2 := by omega
      have hvb' : va (c - 240) f m ≤ 8388607 := by
        have : 64 ^ m ≤ 64 ^ 2 := Nat.pow_le_pow_right (by omega) hm2
        omega
      obtain ⟨x, hx⟩ : ∃ x, f (m + 1) = x := ⟨_, rfl⟩
      rw [hx] at hcm hb8
      have HX := Lib.hid hx
      have hva : va (c - 240) f (m + 1) = 64 * va (c - 240) f m + x - 128 := by rw [← hx]; rfl
      have HA := Lib.hid hva
      clear hx hva
      obtain ⟨V, hV⟩ : ∃ V, va (c - 240) f m = V := ⟨_, rfl⟩
      rw [hV] at hvb' hvb ⊢
      have HW := Lib.hid hV
      clear hV hvb
      have b0 : (0 : Int) ≤ (V : Int) := by omega
      have b1 : (V : Int) ≤ 8388607 := by omega
      have b2 : (0 : Int) ≤ (m : Int) := by omega
      have b3 : (m : Int) + 1 < (k : Int) := by omega
      by_cases c1 : x < 128
      · have t1 : decide ((x : Int) < 128) = true := by simp; omega
        go_wp2
        go_ret2
        exact ⟨by rw [begC_bad (fun h => by have := (h (m + 1) (by omega) hlt).1; have := HX.out; omega)]; rfl, rfl⟩
      · by_cases c2 : 192 ≤ x
        · have t1 : decide ((x : Int) < 128) = false := by simp; omega
          have t2 : (192 : Int) ≤ (x : Int) := by omega
          go_wp2
          go_ret2
          exact ⟨by rw [begC_bad (fun h => by have := (h (m + 1) (by omega) hlt).2; have := HX.out; omega)]; rfl, rfl⟩
        · have t1 : decide ((x : Int) < 128) = false := by simp; omega
          have t2 : (x : Int) < 192 := by omega
          have t3 : (128 : Int) ≤ (x : Int) := by omega
          go_wp2
          go_round
          case rel => exact ⟨m + 1, by omega, by go_num, by
            rw [HA.out, HW.out]
            congr 1
            omega, fun j a bj => by
            rcases Nat.lt_or_ge m j with q | q
            · obtain rfl : j = m + 1 := by omega
              have := HX.out
              omega
            · exact HG.out j a (by omega)⟩
          case measure => simp [RowKit.intOf]; omega
    · obtain rfl : k = m + 1 := by omega
      have kk : ((m : Int) + 1 < (m : Int) + 1) = False := by simp
      obtain ⟨V, hV⟩ : ∃ V, va (c - 240) f m = V := ⟨_, rfl⟩
      rw [hV] at hvb ⊢
      have HW := Lib.hid hV
      clear hV
      have HS := fun q (h1 : m + 1 ≤ q) (h2 : q ≤ 4) => sHi_le (V := V) (C := 8) (k := m + 1) (N := 4) (m := q) (by simpa using hvb) (by omega) h1 h2 (by omega)
      have HS := Lib.hid HS
      clear hvb
      go_wp2
      go_loop [10, 11, 12] (fun lo hi i => ∃ q : Nat, m + 1 ≤ q ∧ q ≤ 4 ∧ i = .int .i64 (q : Int) ∧ lo = .int .i32 (sLo V (m + 1) q) ∧ hi = .int .i32 (sHi V (m + 1) q)) (fun _ _ i => 4 - (RowKit.intOf i).toNat)
      case atStart => exact ⟨m + 1, by omega, by omega, by go_num, by rw [sLo_self], by rw [sHi_self]⟩
      case round =>
        obtain ⟨q, hq1, hq2, rfl, rfl, rfl⟩ := hrel
        by_cases hqN : q < 4
        · have w1 := HS.out (q + 1) (by omega) (by omega)
          have w2 := sLo_le V (m + 1) (q + 1)
          have s1 := sLo_succ V (m + 1) q hq1
          have s2 := sHi_succ V (m + 1) q hq1
          rw [s2] at w1 w2
          rw [s1] at w2
          have S1 := Lib.hid s1
          have S2 := Lib.hid s2
          clear s1 s2
          generalize sLo V (m + 1) q = L at *
          generalize sHi V (m + 1) q = H at *
          have b0 : (0 : Int) ≤ (L : Int) := by omega
          have b1 : (L : Int) ≤ 8388607 := by omega
          have b2 : (0 : Int) ≤ (H : Int) := by omega
          have b3 : (H : Int) ≤ 8388607 := by omega
          have b4 : (q : Int) < 4 := by omega
          go_wp2
          go_round
          case rel => exact ⟨q + 1, by omega, by omega, by go_num, by rw [S1.out]; go_num, by rw [S2.out]; go_num⟩
          case measure => simp [RowKit.intOf]; omega
        · obtain rfl : q = 4 := by omega
          have hgk := HG.out
          have res : begC 4 (c - 240) 65536 1114111 (m + 1) f = (if sHi V (m + 1) 4 < 65536 then (0, 0) else if 1114111 < sLo V (m + 1) 4 then (0, 0) else if 55296 ≤ sLo V (m + 1) 4 ∧ sHi V (m + 1) 4 ≤ 57343 then (0, 0) else (sLo V (m + 1) 4, 4)) := by
            unfold begC
            rw [if_pos hgk, Nat.add_sub_cancel, HW.out]
          clear hgk
          have w1 := HS.out 4 (by omega) (by omega)
          have w2 := sLo_le V (m + 1) 4
          generalize sLo V (m + 1) 4 = L at *
          generalize sHi V (m + 1) 4 = H at *
          by_cases c1 : H < 65536
          · have t1 : decide ((H : Int) < 65536) = true := by simp; omega
            rw [if_pos c1] at res
            have HF := Lib.hid res
            clear res
            go_wp2
            go_ret2
            exact ⟨by rw [HF.out]; rfl, rfl⟩
          · have t1 : decide ((H : Int) < 65536) = false := by simp; omega
            rw [if_neg c1] at res
            by_cases c2 : 1114111 < L
            · have t2 : decide ((1114111 : Int) < (L : Int)) = true := by simp; omega
              rw [if_pos c2] at res
              have HF := Lib.hid res
              clear res
              go_wp2
              go_ret2
              exact ⟨by rw [HF.out]; rfl, rfl⟩
            · have t2 : decide ((1114111 : Int) < (L : Int)) = false := by simp; omega
              rw [if_neg c2] at res
              by_cases c3 : 55296 ≤ L
              · have t3 : decide ((55296 : Int) ≤ (L : Int)) = true := by simp; omega
                by_cases c4 : H ≤ 57343
                · have t4 : decide ((H : Int) ≤ 57343) = true := by simp; omega
                  rw [if_pos ⟨c3, c4⟩] at res
                  have HF := Lib.hid res
                  clear res
                  go_wp2
                  go_ret2
                  exact ⟨by rw [HF.out]; rfl, rfl⟩
                · have t4 : decide ((H : Int) ≤ 57343) = false := by simp; omega
                  rw [if_neg (fun h => c4 h.2)] at res
                  have HF := Lib.hid res
                  clear res
                  go_wp2
                  go_ret2
                  exact ⟨by rw [HF.out]; rfl, rfl⟩
              · have t3 : decide ((55296 : Int) ≤ (L : Int)) = false := by simp; omega
                rw [if_neg (fun h => c3 h.1)] at res
                have HF := Lib.hid res
                clear res
                go_wp2
                go_ret2
                exact ⟨by rw [HF.out]; rfl, rfl⟩
end Go.Proofs.YtojinnnpfjhifaaGreatDoor.S

