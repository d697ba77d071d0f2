/-
  Part.
-/
import Derived.OwnWalk
import Derived.Test.YtfafhbgkmlmmdaaGreatDoorYru
set_option maxRecDepth 100000
set_option maxHeartbeats 40000000
namespace Go.Proofs.YtfafhbgkmlmmdaaGreatDoor
open Go.RowKit Go.Shelf Go.Lib Go.Maps Go.Great
attribute [local irreducible] NR ZNR FR nmE
theorem closT_none {xs : List Nat} {k : Nat} (h : markT xs k = none) : closT xs k = false := by
 unfold markT at h
 unfold closT
 cases e : G.rdT (xs.drop k) with
 | none => rfl
 | some T =>
  rw [e] at h
  cases h
def rawNm (nm : List Nat) : Prop := nm = [115, 99, 114, 105, 112, 116] ∨ nm = [115, 116, 121, 108, 101]
theorem low256 {l : List Nat} (h : ∀ x ∈ l, x < 256) : ∀ x ∈ G.lowL l, x < 256 := fun x hx => by
 unfold G.lowL at hx
 obtain ⟨y, hy, rfl⟩ := List.mem_map.1 hx
 have := h y hy
 unfold G.lowN
 split <;> omega
theorem upGo_name (N k : Nat) (e : List Nat) : ∀ l, (G.upGo N k e l).name = []
 | [] => rfl
 | c :: t => by
  unfold G.upGo
  split
  ·rfl
  ·exact upGo_name N k e t
theorem rdT_name {l : List Nat} (hl : ∀ x ∈ l, x < 256) {T : G.TG} (h : G.rdT l = some T) : ∀ x ∈ T.name, x < 256 := by
 have key : ∀ N k t, (∀ x ∈ t, x < 256) → ∀ x ∈ (G.refGo N k G.rs0 t).name, x < 256 := fun N k t ht x hx => by
  rw [name_zero _ _ _ _ rfl] at hx
  exact low256 (fun y hy => ht y (List.takeWhile_subset _ hy)) x (by simpa [G.rs0] using hx)
 unfold G.rdT at h
 split at h
 ·rename_i d c t
  have h1 : ∀ x ∈ c :: t, x < 256 := fun x hx => hl x (List.mem_cons_of_mem _ hx)
  have h2 : ∀ x ∈ t, x < 256 := fun x hx => h1 x (List.mem_cons_of_mem _ hx)
  split at h
  ·cases h
  ·split at h
   ·cases h
    exact key _ _ _ h1
   ·split at h
    ·cases h
     exact key _ _ _ h2
    ·split at h
     ·cases h
      rw [upGo_name]
      simp
     ·split at h
      ·cases h
       rw [upGo_name]
       simp
      ·cases h
 ·cases h
theorem mark_names {xs : List Nat} {k : Nat} {t : TK} (h256 : ∀ x ∈ xs, x < 256) (h : markT xs k = some t) : ∀ x ∈ t.name, x < 256 := by
 unfold markT at h
 split at h
 ·rename_i T hT
  cases h
  exact rdT_name (fun x hx => h256 x (List.mem_of_mem_drop hx)) hT
 ·split at h
  ·cases h
   simp
  ·split at h
   ·cases h
    simp
   ·cases h
theorem raw_names {t : TK} (h : ∀ x ∈ t.name, x < 256) (hr : isRaw t = true) : rawNm t.name := by
 unfold isRaw at hr
 simp only [Bool.and_eq_true, Bool.or_eq_true, beq_iff_eq] at hr
 rcases hr.2 with h1 | h1
 ·exact .inl (u8s_eq h (by decide) (h1.trans (by rfl)))
 ·exact .inr (u8s_eq h (by decide) (h1.trans (by rfl)))
theorem raw_ne {nm : List Nat} (h : rawNm nm) : nm ≠ [] := by
 rcases h with rfl | rfl <;> simp
theorem raw_az {nm : List Nat} (h : rawNm nm) : ∀ c ∈ nm, 97 ≤ c ∧ c ≤ 122 := by
 rcases h with rfl | rfl <;> decide
theorem raw_len {nm : List Nat} (h : rawNm nm) : nm.length ≤ 100 := by
 rcases h with rfl | rfl <;> decide
theorem raw_nn {nm : List Nat} {NS : ByteArray} (h : rawNm nm) (e : (⟨(G.u8s nm).toArray⟩ : ByteArray) = NS) : (NS.toList == ([] : List UInt8)) = false := by
 subst e
 rcases h with rfl | rfl <;> simp [G.u8s]
def posF (w : World) (g : Nat) : Nat := match w.cell? ⟨g, 2, none⟩ with
 | some (.int _ i) => i.toNat
 | _ => 0
def nameV (nm : List Nat) : Value := .string ⟨(G.u8s nm).toArray⟩
theorem wpList_appT {ops : Array Oper} {rest : List Oper} {o : Oper} {a : Act} {W : World} {Q : Exit → Act → World → Prop} (hgd : o.guard = none)
  (ho : o.op = .call { callee := .builtin .append, args := #[.tmp 107, .tmp 109], argTypes := #[30, 30] }) (w : World) {w1 : World} {v : Value} {l : List TK} {t : TK} {cs : Array Value} (hb : Below w.heap.size w w1) (h0 : OwnF w1 w.heap.size l v) (hcs : refC t false = cs) (hs : a.eval (.tmp 107) = v)
  (hw : (w1.alloc (.cells cs 39)).alloc (.cells cs 39) = W) (hx : a.eval (.tmp 109) = .slice (some ⟨w1.heap.size + 1, 0, none⟩) 1 1) (h63 : l.length ≤ 1000000) (z : Value) (hz : .int .i64 (t.to : Int) = z)
  (h : ∀ g cap w', OwnF w' w.heap.size (l ++ [t]) (.slice (some ⟨g, 0, none⟩) (l.length + 1) cap) → Below w.heap.size w w' → w'.cell? ⟨w1.heap.size, 2, none⟩ = some z → wpList Tryz.prog ops Q rest (a.put o.dst (.slice (some ⟨g, 0, none⟩) (l.length + 1) cap)) w') : wpList Tryz.prog ops Q (o :: rest) a W := by
 subst hcs hw hz
 have hbs := hb.size
 refine wpList_appF hgd (.tmp 107) (.tmp 109) ho w.heap.size v l t hs (w1.alloc (.cells (refC t false) 39)) (h0.below (below_new _ _)) rfl (by rw [hx, World.size_alloc]) h63 (by rw [World.size_alloc]; omega) ?_
 intro g cp w5 ho5 hb5 hk5
 have x5 : Cells w5 w1.heap.size 39 (refC t false) := (hk5 w1.heap.size (by simp) (by intro e; have := (own_block_lt h0 _ e).2; omega)).trans (cells_new w1 _ _)
 exact h g cp w5 ho5 (hb.trans (((below_new w1 _).mono hbs).trans hb5)) (x5.cell 2)
theorem RAll_any (xs : List Nat) (A : Option Addr) (cap : Nat) (w : World) (hx : BY w w.heap.size xs A cap) (hl : xs.length ≤ 1000) :
  Calls Tryz.prog 16 #[.slice A xs.length cap] w fun e w' => ∃ v, e = .returned v ∧ OwnF w' w.heap.size (eachL xs) v ∧ Below w.heap.size w w' := by
 have CB := fun k (hk : k < xs.length) W (hb : Below w.heap.size w W) => begins_any xs A cap k W (hx.on hb) hl hk
 have CE : ∀ k, k < xs.length → ∀ nm : List Nat, nm.length ≤ 100 → (∀ c ∈ nm, c < 256) → ∀ W, Below w.heap.size w W → Calls Tryz.prog 43 #[.slice A xs.length cap, .int .i64 (k : Int), .string ⟨(G.u8s nm).toArray⟩] W fun e w' => e = .returned (.bool (endsD (xs.drop k) nm)) ∧ Below W.heap.size W w' := fun k hk nm h1 h2 W hb => by
  obtain ⟨b, o, e, _, _⟩ := hx.at (List.getElem?_eq_getElem hk)
  subst e
  exact ends_any xs b o cap k nm W (hx.on hb) hl hk h1 h2
 have h256 := hx.i
 obtain ⟨N, hN⟩ : ∃ N, xs.length = N := ⟨_, rfl⟩
 rw [hN] at CB CE hl ⊢
 have HX := Lib.hid (And.intro CB (And.intro CE (And.intro h256 hN)))
 clear CB CE h256 hN hx
 go_enter Tryz.func16, Tryz.ntmps16
 go_wp2_with fail
 go_loopw [3, 4, 5] (fun v s i wr => ∃ (k : Nat) (L : List TK) (nm : List Nat), s = nameV nm ∧ i = .int .i64 (k : Int) ∧ k ≤ N ∧ OwnF wr w.heap.size L v ∧ L.length ≤ k ∧ ((nm = [] ∧ StA xs k L) ∨ (nm ≠ [] ∧ StC xs k L nm ∧ rawNm nm)) ∧ Below w.heap.size w wr) (fun _ _ i _ => N - (RowKit.intOf i).toNat)
 case atStart => exact ⟨0, [], [], rfl, rfl, by omega, ownF_nil _ _, Nat.le_refl _, .inl ⟨rfl, stA_zero xs⟩, Below.refl _ _⟩
 case round =>
  obtain ⟨k, L, nm, rfl, rfl, hk, hO, hLk, hst, hb⟩ := hrel
  obtain ⟨A1, c1, rfl⟩ := hO.form
  by_cases lt : k < N
  case neg =>
   have hke : k = xs.length := by have := HX.out.2.2.2; omega
   have hL : L = eachL xs := by
    rcases hst with ⟨_, h⟩ | ⟨_, h, _⟩
    ·exact stA_end h hke
    ·exact stC_end h hke
   have i1 : ¬ (k : Int) < (N : Int) := by omega
   have HE := Lib.hid (And.intro hL (And.intro hO hb))
   clear hL hO hb hst hke
   go_wp2_with fail
   go_ret
   exact ⟨_, rfl, by rw [← HE.out.1]; exact HE.out.2.1, HE.out.2.2⟩
  case pos =>
   have i1 : (k : Int) < (N : Int) := by omega
   rcases hst with ⟨rfl, hA⟩ | ⟨hne, hC, hnms⟩
   ·have HO := Lib.hid (And.intro hO (And.intro hb hLk))
    have HA := Lib.hid hA
    clear hO hb hA
    rw [show nameV [] = .string ⟨#[]⟩ from rfl]
    go_wp2_with fail
    refine (HX.out.1 k lt wr HO.out.2.1).mono ?_
    rintro e w1 ⟨rfl, hb1⟩
    have hbw1 := HO.out.2.1.trans (hb1.mono HO.out.2.1.size)
    have hO1 := HO.out.1.below hb1
    have hbs := hbw1.size
    have hkN : k < xs.length := by have := HX.out.2.2.2; omega
    have hLk2 := HO.out.2.2
    cases hm : markT xs k with
    | none =>
     have hcl : closT xs k = false := closT_none hm
     rw [hcl]
     simp only [Option.getD_none]
     rw [show refC tkZ false = #[.int .i64 0, .int .i64 0, .int .i64 0, .string ⟨#[]⟩, .int .i32 0, .bool false, .bool false] from rfl]
     rcases stA_none HA.out hkN hm with ⟨l', e, he, hLe, hS⟩ | ⟨hlast, hS⟩
     ·subst hLe
      obtain ⟨g, rfl⟩ := hO1.some
      have z0 := (hO1.last g rfl).1
      have z1 := (hO1.last g rfl).2
      replace z0 : w1.cell? ⟨g, l'.length * 7, none⟩ = some (.int .i64 0) := z0
      replace z1 : w1.cell? ⟨g, l'.length * 7 + 1, none⟩ = some (.int .i64 (e : Int)) := z1
      have hgl : g < w1.heap.size := (own_block_lt hO1 g rfl).2
      have hcc := hO1.cap
      have HB1 := Lib.hid (And.intro hbw1 (And.intro hO1.cut hS))
      rw [List.length_append, List.length_singleton] at hLk2 hcc
      rw [List.length_append, List.length_singleton]
      clear hbw1 hO1 hS hb1 hm hcl
      go_wp2_with (first
       | (at_builtin; refine wpList_appT rfl rfl w HB1.out.1 HB1.out.2.1 (t := txT e (k + 1)) rfl rfl rfl rfl (by omega) (.int .i64 ((k : Int) + 1)) rfl ?_)
       | fail)
      intro g5 cp5 w5 ho5 bw5 k5
      have HZ := Lib.hid (And.intro ho5 bw5)
      clear ho5 bw5
      go_wp2_with fail
      go_roundw
      case rel => exact ⟨k + 1, l' ++ [txT e (k + 1)], [], rfl, by first | rfl | go_num, by omega, by simpa using HZ.out.1, by simp; omega, .inl ⟨rfl, HB1.out.2.2⟩, HZ.out.2⟩
      case measure => simp [RowKit.intOf]; omega
     ·rcases hlast with hnil | ⟨m, y, hmy, hy0⟩
      ·subst hnil
       have HB1 := Lib.hid (And.intro hbw1 (And.intro hO1 hS))
       clear hbw1 hO1 hS hb1 hm hcl
       go_wp2_with (first
        | (at_builtin; refine wpList_appT rfl rfl w HB1.out.1 HB1.out.2.1 (t := txT k (k + 1)) rfl rfl rfl rfl (by omega) (.int .i64 ((k : Int) + 1)) rfl ?_)
        | fail)
       intro g5 cp5 w5 ho5 bw5 k5
       have HZ := Lib.hid (And.intro ho5 bw5)
       clear ho5 bw5
       go_wp2_with fail
       go_roundw
       case rel => exact ⟨k + 1, [] ++ [txT k (k + 1)], [], rfl, by first | rfl | go_num, by omega, by simpa using HZ.out.1, by simp, .inl ⟨rfl, HB1.out.2.2⟩, HZ.out.2⟩
       case measure => simp [RowKit.intOf]; omega
      ·subst hmy
       obtain ⟨g, rfl⟩ := hO1.some
       have z0 := (hO1.last g rfl).1
       have hgl : g < w1.heap.size := (own_block_lt hO1 g rfl).2
       have d0 : ((y.kind : Int) == 0) = false := by simp; omega
       have HB1 := Lib.hid (And.intro hbw1 (And.intro hO1 hS))
       have hLl : (m ++ [y]).length = m.length + 1 := by simp
       have hcc := hO1.cap
       clear hbw1 hO1 hS hb1 hm hcl hy0
       go_wp2_with (first
        | (at_builtin; refine wpList_appT rfl rfl w HB1.out.1 HB1.out.2.1 (t := txT k (k + 1)) rfl rfl rfl rfl (by omega) (.int .i64 ((k : Int) + 1)) rfl ?_)
        | fail)
       intro g5 cp5 w5 ho5 bw5 k5
       have HZ := Lib.hid (And.intro ho5 bw5)
       clear ho5 bw5
       go_wp2_with fail
       go_roundw
       case rel => exact ⟨k + 1, (m ++ [y]) ++ [txT k (k + 1)], [], rfl, by first | rfl | go_num, by omega, by simpa using HZ.out.1, by simp; omega, .inl ⟨rfl, HB1.out.2.2⟩, HZ.out.2⟩
       case measure => simp [RowKit.intOf]; omega
    | some t =>
     have m1 := mark_to (by omega) hm
     simp only [Option.getD_some]
     obtain ⟨SN, hSN⟩ : ∃ Sx : ByteArray, ⟨(G.u8s t.name).toArray⟩ = Sx := ⟨_, rfl⟩
     have hrefC : refC t false = #[.int .i64 (t.kind : Int), .int .i64 (t.fr : Int), .int .i64 (t.to : Int), .string SN, .int .i32 t.r, .bool t.sg, .bool false] := by rw [← hSN]; rfl
     have hrefD : refC t (closT xs k) = #[.int .i64 (t.kind : Int), .int .i64 (t.fr : Int), .int .i64 (t.to : Int), .string SN, .int .i32 t.r, .bool t.sg, .bool (closT xs k)] := by rw [← hSN]; rfl
     rw [hrefD]
     have d0 : ((t.kind : Int) == 0) = false := by simp; omega
     have hSl : SN.toList = G.u8s t.name := by rw [← hSN]; simp
     have htk : k < t.to ∧ t.to ≤ N := by have := HX.out.2.2.2; omega
     have HB1 := Lib.hid (And.intro hbw1 hO1)
     have HT := Lib.hid (And.intro hkN (And.intro hm hSN))
     have hraw : isRaw t = (decide (t.kind = 2) && !t.sg && (SN.toList == scriptU || SN.toList == styleU)) := by rw [hSl]; rfl
     clear hbw1 hO1 hb1 hrefD hSN m1 hm hSl
     by_cases c2 : t.kind = 2
     case neg =>
      have d2 : ((t.kind : Int) == 2) = false := by simp; omega
      have hr : isRaw t = false := by rw [hraw]; simp [c2]
      have HR := Lib.hid hr
      clear hraw hr c2
      go_wp2_with (first
       | (at_builtin; refine wpList_appT rfl rfl w HB1.out.1 HB1.out.2 (t := t) (by rw [hrefC]) rfl rfl rfl (by omega) _ rfl ?_)
       | fail)
      intro g5 cp5 w5 ho5 bw5 k5
      have HZ := Lib.hid (And.intro ho5 bw5)
      clear ho5 bw5
      go_wp2_with fail
      go_roundw
      case rel => exact ⟨t.to, L ++ [t], [], rfl, by first | rfl | go_num, by omega, by simpa using HZ.out.1, by simp; omega, .inl ⟨rfl, stA_some HA.out HT.out.1 HT.out.2.1 (.inl HR.out)⟩, HZ.out.2⟩
      case measure => simp [RowKit.intOf]; omega
     case pos =>
      have d2 : ((t.kind : Int) == 2) = true := by simp; omega
      cases hcl : closT xs k with
      | false =>
       have HR := Lib.hid hcl
       clear hraw c2
       go_wp2_with (first
        | (at_builtin; refine wpList_appT rfl rfl w HB1.out.1 HB1.out.2 (t := t) (by rw [hrefC]) rfl rfl rfl (by omega) _ rfl ?_)
        | fail)
       intro g5 cp5 w5 ho5 bw5 k5
       have HZ := Lib.hid (And.intro ho5 bw5)
       clear ho5 bw5
       go_wp2_with fail
       go_roundw
       case rel => exact ⟨t.to, L ++ [t], [], rfl, by first | rfl | go_num, by omega, by simpa using HZ.out.1, by simp; omega, .inl ⟨rfl, stA_some HA.out HT.out.1 HT.out.2.1 (.inr HR.out)⟩, HZ.out.2⟩
       case measure => simp [RowKit.intOf]; omega
      | true =>
       cases hsg : t.sg with
       | true =>
        have hr : isRaw t = false := by rw [hraw, hsg]; simp
        have HR := Lib.hid hr
        clear hraw hr c2
        go_wp2_with (first
         | (at_builtin; refine wpList_appT rfl rfl w HB1.out.1 HB1.out.2 (t := t) (by rw [hrefC, hsg]) rfl rfl rfl (by omega) _ rfl ?_)
         | fail)
        intro g5 cp5 w5 ho5 bw5 k5
        have HZ := Lib.hid (And.intro ho5 bw5)
        clear ho5 bw5
        go_wp2_with fail
        go_roundw
        case rel => exact ⟨t.to, L ++ [t], [], rfl, by first | rfl | go_num, by omega, by simpa using HZ.out.1, by simp; omega, .inl ⟨rfl, stA_some HA.out HT.out.1 HT.out.2.1 (.inl HR.out)⟩, HZ.out.2⟩
        case measure => simp [RowKit.intOf]; omega
       | false =>
        obtain ⟨s1, hs1⟩ : ∃ b, (SN.toList == scriptU) = b := ⟨_, rfl⟩
        obtain ⟨s2, hs2⟩ : ∃ b, (SN.toList == styleU) = b := ⟨_, rfl⟩
        rw [hsg, hs1, hs2] at hraw
        have n1 : (SN.toList == [115, 99, 114, 105, 112, 116]) = s1 := hs1
        have n2 : (SN.toList == [115, 116, 121, 108, 101]) = s2 := hs2
        have H256 := Lib.hid (mark_names HX.out.2.2.1 HT.out.2.1)
        cases s1 with
        | true =>
         have hr : isRaw t = true := by rw [hraw, c2]; rfl
         have HR := Lib.hid hr
         have HN := Lib.hid (raw_names H256.out hr)
         clear hraw hr c2 hs1 hs2 n2
         go_wp2_with (first
          | (at_builtin; refine wpList_appT rfl rfl w HB1.out.1 HB1.out.2 (t := t) (by rw [hrefC, hsg]) rfl rfl rfl (by omega) _ rfl ?_)
          | fail)
         intro g5 cp5 w5 ho5 bw5 k5
         have HZ := Lib.hid (And.intro ho5 bw5)
         clear ho5 bw5
         go_wp2_with fail
         go_roundw
         case rel => exact ⟨t.to, L ++ [t], t.name, (by rw [← HT.out.2.2]; rfl), by first | rfl | go_num, by omega, by simpa using HZ.out.1, by simp; omega, .inr ⟨raw_ne HN.out, stA_tag HA.out HT.out.1 HT.out.2.1 HR.out, HN.out⟩, HZ.out.2⟩
         case measure => simp [RowKit.intOf]; omega
        | false =>
         cases s2 with
         | true =>
          have hr : isRaw t = true := by rw [hraw, c2]; rfl
          have HR := Lib.hid hr
          have HN := Lib.hid (raw_names H256.out hr)
          clear hraw hr c2 hs1 hs2
          go_wp2_with (first
           | (at_builtin; refine wpList_appT rfl rfl w HB1.out.1 HB1.out.2 (t := t) (by rw [hrefC, hsg]) rfl rfl rfl (by omega) _ rfl ?_)
           | fail)
          intro g5 cp5 w5 ho5 bw5 k5
          have HZ := Lib.hid (And.intro ho5 bw5)
          clear ho5 bw5
          go_wp2_with fail
          go_roundw
          case rel => exact ⟨t.to, L ++ [t], t.name, (by rw [← HT.out.2.2]; rfl), by first | rfl | go_num, by omega, by simpa using HZ.out.1, by simp; omega, .inr ⟨raw_ne HN.out, stA_tag HA.out HT.out.1 HT.out.2.1 HR.out, HN.out⟩, HZ.out.2⟩
          case measure => simp [RowKit.intOf]; omega
         | false =>
          have hr : isRaw t = false := by rw [hraw]; simp
          have HR := Lib.hid hr
          clear hraw hr c2 hs1 hs2
          go_wp2_with (first
           | (at_builtin; refine wpList_appT rfl rfl w HB1.out.1 HB1.out.2 (t := t) (by rw [hrefC, hsg]) rfl rfl rfl (by omega) _ rfl ?_)
           | fail)
          intro g5 cp5 w5 ho5 bw5 k5
          have HZ := Lib.hid (And.intro ho5 bw5)
          clear ho5 bw5
          go_wp2_with fail
          go_roundw
          case rel => exact ⟨t.to, L ++ [t], [], rfl, by first | rfl | go_num, by omega, by simpa using HZ.out.1, by simp; omega, .inl ⟨rfl, stA_some HA.out HT.out.1 HT.out.2.1 (.inl HR.out)⟩, HZ.out.2⟩
          case measure => simp [RowKit.intOf]; omega
   ·have hlk : k < xs.length := by have := HX.out.2.2.2; omega
    have hRD : ∀ j, endR (xs.drop j) nm = endsD (xs.drop j) nm := fun j => endR_D (fun x hx => HX.out.2.2.1 x (List.mem_of_mem_drop hx)) (raw_az hnms) hne
    have hn2 : ∀ c ∈ nm, c < 256 := fun c hc => by have := raw_az hnms c hc; omega
    have CEn : ∀ j, j < N → ∀ W, Below w.heap.size w W → Calls Tryz.prog 43 #[.slice A N cap, .int .i64 (j : Int), nameV nm] W fun e w' => e = .returned (.bool (endR (xs.drop j) nm)) ∧ Below W.heap.size W w' := fun j hj W hb => by
     rw [hRD j]
     exact HX.out.2.1 j hj nm (raw_len hnms) hn2 W hb
    obtain ⟨NS, hNS⟩ : ∃ Sx : ByteArray, ⟨(G.u8s nm).toArray⟩ = Sx := ⟨_, rfl⟩
    have hnv : nameV nm = .string NS := by rw [← hNS]; rfl
    have hn0 : (NS.toList == ([] : List UInt8)) = false := raw_nn hnms hNS
    rw [hnv] at CEn
    rw [hnv]
    cases hE : endR (xs.drop k) nm with
    | true =>
     have hA := stC_ends hC hlk hE
     have CEk := CEn k lt wr hb
     rw [hE] at CEk
     clear hRD hn2 CEn hNS hnv hE hC hne hnms
     go_wp2_with fail
     refine CEk.mono ?_
     rintro e w0 ⟨rfl, hb0⟩
     have HO := Lib.hid (And.intro (hO.below hb0) (And.intro (hb.trans (hb0.mono hb.size)) hLk))
     have HA := Lib.hid hA
     clear hO hb hA hb0 CEk hn0
     go_wp2_with fail
     refine (HX.out.1 k lt w0 HO.out.2.1).mono ?_
     rintro e w1 ⟨rfl, hb1⟩
     have hbw1 := HO.out.2.1.trans (hb1.mono HO.out.2.1.size)
     have hO1 := HO.out.1.below hb1
     have hbs := hbw1.size
     have hkN : k < xs.length := by have := HX.out.2.2.2; omega
     have hLk2 := HO.out.2.2
     cases hm : markT xs k with
     | none =>
      have hcl : closT xs k = false := closT_none hm
      rw [hcl]
      simp only [Option.getD_none]
      rw [show refC tkZ false = #[.int .i64 0, .int .i64 0, .int .i64 0, .string ⟨#[]⟩, .int .i32 0, .bool false, .bool false] from rfl]
      rcases stA_none HA.out hkN hm with ⟨l', e, he, hLe, hS⟩ | ⟨hlast, hS⟩
      ·subst hLe
       obtain ⟨g, rfl⟩ := hO1.some
       have z0 := (hO1.last g rfl).1
       have z1 := (hO1.last g rfl).2
       replace z0 : w1.cell? ⟨g, l'.length * 7, none⟩ = some (.int .i64 0) := z0
       replace z1 : w1.cell? ⟨g, l'.length * 7 + 1, none⟩ = some (.int .i64 (e : Int)) := z1
       have hgl : g < w1.heap.size := (own_block_lt hO1 g rfl).2
       have hcc := hO1.cap
       have HB1 := Lib.hid (And.intro hbw1 (And.intro hO1.cut hS))
       rw [List.length_append, List.length_singleton] at hLk2 hcc
       rw [List.length_append, List.length_singleton]
       clear hbw1 hO1 hS hb1 hm hcl
       go_wp2_with (first
        | (at_builtin; refine wpList_appT rfl rfl w HB1.out.1 HB1.out.2.1 (t := txT e (k + 1)) rfl rfl rfl rfl (by omega) (.int .i64 ((k : Int) + 1)) rfl ?_)
        | fail)
       intro g5 cp5 w5 ho5 bw5 k5
       have HZ := Lib.hid (And.intro ho5 bw5)
       clear ho5 bw5
       go_wp2_with fail
       go_roundw
       case rel => exact ⟨k + 1, l' ++ [txT e (k + 1)], [], rfl, by first | rfl | go_num, by omega, by simpa using HZ.out.1, by simp; omega, .inl ⟨rfl, HB1.out.2.2⟩, HZ.out.2⟩
       case measure => simp [RowKit.intOf]; omega
      ·rcases hlast with hnil | ⟨m, y, hmy, hy0⟩
       ·subst hnil
        have HB1 := Lib.hid (And.intro hbw1 (And.intro hO1 hS))
        clear hbw1 hO1 hS hb1 hm hcl
        go_wp2_with (first
         | (at_builtin; refine wpList_appT rfl rfl w HB1.out.1 HB1.out.2.1 (t := txT k (k + 1)) rfl rfl rfl rfl (by omega) (.int .i64 ((k : Int) + 1)) rfl ?_)
         | fail)
        intro g5 cp5 w5 ho5 bw5 k5
        have HZ := Lib.hid (And.intro ho5 bw5)
        clear ho5 bw5
        go_wp2_with fail
        go_roundw
        case rel => exact ⟨k + 1, [] ++ [txT k (k + 1)], [], rfl, by first | rfl | go_num, by omega, by simpa using HZ.out.1, by simp, .inl ⟨rfl, HB1.out.2.2⟩, HZ.out.2⟩
        case measure => simp [RowKit.intOf]; omega
       ·subst hmy
        obtain ⟨g, rfl⟩ := hO1.some
        have z0 := (hO1.last g rfl).1
        have hgl : g < w1.heap.size := (own_block_lt hO1 g rfl).2
        have d0 : ((y.kind : Int) == 0) = false := by simp; omega
        have HB1 := Lib.hid (And.intro hbw1 (And.intro hO1 hS))
        have hLl : (m ++ [y]).length = m.length + 1 := by simp
        have hcc := hO1.cap
        clear hbw1 hO1 hS hb1 hm hcl hy0
        go_wp2_with (first
         | (at_builtin; refine wpList_appT rfl rfl w HB1.out.1 HB1.out.2.1 (t := txT k (k + 1)) rfl rfl rfl rfl (by omega) (.int .i64 ((k : Int) + 1)) rfl ?_)
         | fail)
        intro g5 cp5 w5 ho5 bw5 k5
        have HZ := Lib.hid (And.intro ho5 bw5)
        clear ho5 bw5
        go_wp2_with fail
        go_roundw
        case rel => exact ⟨k + 1, (m ++ [y]) ++ [txT k (k + 1)], [], rfl, by first | rfl | go_num, by omega, by simpa using HZ.out.1, by simp; omega, .inl ⟨rfl, HB1.out.2.2⟩, HZ.out.2⟩
        case measure => simp [RowKit.intOf]; omega
     | some t =>
      have m1 := mark_to (by omega) hm
      simp only [Option.getD_some]
      obtain ⟨SN, hSN⟩ : ∃ Sx : ByteArray, ⟨(G.u8s t.name).toArray⟩ = Sx := ⟨_, rfl⟩
      have hrefC : refC t false = #[.int .i64 (t.kind : Int), .int .i64 (t.fr : Int), .int .i64 (t.to : Int), .string SN, .int .i32 t.r, .bool t.sg, .bool false] := by rw [← hSN]; rfl
      have hrefD : refC t (closT xs k) = #[.int .i64 (t.kind : Int), .int .i64 (t.fr : Int), .int .i64 (t.to : Int), .string SN, .int .i32 t.r, .bool t.sg, .bool (closT xs k)] := by rw [← hSN]; rfl
      rw [hrefD]
      have d0 : ((t.kind : Int) == 0) = false := by simp; omega
      have hSl : SN.toList = G.u8s t.name := by rw [← hSN]; simp
      have htk : k < t.to ∧ t.to ≤ N := by have := HX.out.2.2.2; omega
      have HB1 := Lib.hid (And.intro hbw1 hO1)
      have HT := Lib.hid (And.intro hkN (And.intro hm hSN))
      have hraw : isRaw t = (decide (t.kind = 2) && !t.sg && (SN.toList == scriptU || SN.toList == styleU)) := by rw [hSl]; rfl
      clear hbw1 hO1 hb1 hrefD hSN m1 hm hSl
      by_cases c2 : t.kind = 2
      case neg =>
       have d2 : ((t.kind : Int) == 2) = false := by simp; omega
       have hr : isRaw t = false := by rw [hraw]; simp [c2]
       have HR := Lib.hid hr
       clear hraw hr c2
       go_wp2_with (first
        | (at_builtin; refine wpList_appT rfl rfl w HB1.out.1 HB1.out.2 (t := t) (by rw [hrefC]) rfl rfl rfl (by omega) _ rfl ?_)
        | fail)
       intro g5 cp5 w5 ho5 bw5 k5
       have HZ := Lib.hid (And.intro ho5 bw5)
       clear ho5 bw5
       go_wp2_with fail
       go_roundw
       case rel => exact ⟨t.to, L ++ [t], [], rfl, by first | rfl | go_num, by omega, by simpa using HZ.out.1, by simp; omega, .inl ⟨rfl, stA_some HA.out HT.out.1 HT.out.2.1 (.inl HR.out)⟩, HZ.out.2⟩
       case measure => simp [RowKit.intOf]; omega
      case pos =>
       have d2 : ((t.kind : Int) == 2) = true := by simp; omega
       cases hcl : closT xs k with
       | false =>
        have HR := Lib.hid hcl
        clear hraw c2
        go_wp2_with (first
         | (at_builtin; refine wpList_appT rfl rfl w HB1.out.1 HB1.out.2 (t := t) (by rw [hrefC]) rfl rfl rfl (by omega) _ rfl ?_)
         | fail)
        intro g5 cp5 w5 ho5 bw5 k5
        have HZ := Lib.hid (And.intro ho5 bw5)
        clear ho5 bw5
        go_wp2_with fail
        go_roundw
        case rel => exact ⟨t.to, L ++ [t], [], rfl, by first | rfl | go_num, by omega, by simpa using HZ.out.1, by simp; omega, .inl ⟨rfl, stA_some HA.out HT.out.1 HT.out.2.1 (.inr HR.out)⟩, HZ.out.2⟩
        case measure => simp [RowKit.intOf]; omega
       | true =>
        cases hsg : t.sg with
        | true =>
         have hr : isRaw t = false := by rw [hraw, hsg]; simp
         have HR := Lib.hid hr
         clear hraw hr c2
         go_wp2_with (first
          | (at_builtin; refine wpList_appT rfl rfl w HB1.out.1 HB1.out.2 (t := t) (by rw [hrefC, hsg]) rfl rfl rfl (by omega) _ rfl ?_)
          | fail)
         intro g5 cp5 w5 ho5 bw5 k5
         have HZ := Lib.hid (And.intro ho5 bw5)
         clear ho5 bw5
         go_wp2_with fail
         go_roundw
         case rel => exact ⟨t.to, L ++ [t], [], rfl, by first | rfl | go_num, by omega, by simpa using HZ.out.1, by simp; omega, .inl ⟨rfl, stA_some HA.out HT.out.1 HT.out.2.1 (.inl HR.out)⟩, HZ.out.2⟩
         case measure => simp [RowKit.intOf]; omega
        | false =>
         obtain ⟨s1, hs1⟩ : ∃ b, (SN.toList == scriptU) = b := ⟨_, rfl⟩
         obtain ⟨s2, hs2⟩ : ∃ b, (SN.toList == styleU) = b := ⟨_, rfl⟩
         rw [hsg, hs1, hs2] at hraw
         have n1 : (SN.toList == [115, 99, 114, 105, 112, 116]) = s1 := hs1
         have n2 : (SN.toList == [115, 116, 121, 108, 101]) = s2 := hs2
         have H256 := Lib.hid (mark_names HX.out.2.2.1 HT.out.2.1)
         cases s1 with
         | true =>
          have hr : isRaw t = true := by rw [hraw, c2]; rfl
          have HR := Lib.hid hr
          have HN := Lib.hid (raw_names H256.out hr)
          clear hraw hr c2 hs1 hs2 n2
          go_wp2_with (first
           | (at_builtin; refine wpList_appT rfl rfl w HB1.out.1 HB1.out.2 (t := t) (by rw [hrefC, hsg]) rfl rfl rfl (by omega) _ rfl ?_)
           | fail)
          intro g5 cp5 w5 ho5 bw5 k5
          have HZ := Lib.hid (And.intro ho5 bw5)
          clear ho5 bw5
          go_wp2_with fail
          go_roundw
          case rel => exact ⟨t.to, L ++ [t], t.name, (by rw [← HT.out.2.2]; rfl), by first | rfl | go_num, by omega, by simpa using HZ.out.1, by simp; omega, .inr ⟨raw_ne HN.out, stA_tag HA.out HT.out.1 HT.out.2.1 HR.out, HN.out⟩, HZ.out.2⟩
          case measure => simp [RowKit.intOf]; omega
         | false =>
          cases s2 with
          | true =>
           have hr : isRaw t = true := by rw [hraw, c2]; rfl
           have HR := Lib.hid hr
           have HN := Lib.hid (raw_names H256.out hr)
           clear hraw hr c2 hs1 hs2
           go_wp2_with (first
            | (at_builtin; refine wpList_appT rfl rfl w HB1.out.1 HB1.out.2 (t := t) (by rw [hrefC, hsg]) rfl rfl rfl (by omega) _ rfl ?_)
            | fail)
           intro g5 cp5 w5 ho5 bw5 k5
           have HZ := Lib.hid (And.intro ho5 bw5)
           clear ho5 bw5
           go_wp2_with fail
           go_roundw
           case rel => exact ⟨t.to, L ++ [t], t.name, (by rw [← HT.out.2.2]; rfl), by first | rfl | go_num, by omega, by simpa using HZ.out.1, by simp; omega, .inr ⟨raw_ne HN.out, stA_tag HA.out HT.out.1 HT.out.2.1 HR.out, HN.out⟩, HZ.out.2⟩
           case measure => simp [RowKit.intOf]; omega
          | false =>
           have hr : isRaw t = false := by rw [hraw]; simp
           have HR := Lib.hid hr
           clear hraw hr c2 hs1 hs2
           go_wp2_with (first
            | (at_builtin; refine wpList_appT rfl rfl w HB1.out.1 HB1.out.2 (t := t) (by rw [hrefC, hsg]) rfl rfl rfl (by omega) _ rfl ?_)
            | fail)
           intro g5 cp5 w5 ho5 bw5 k5
           have HZ := Lib.hid (And.intro ho5 bw5)
           clear ho5 bw5
           go_wp2_with fail
           go_roundw
           case rel => exact ⟨t.to, L ++ [t], [], rfl, by first | rfl | go_num, by omega, by simpa using HZ.out.1, by simp; omega, .inl ⟨rfl, stA_some HA.out HT.out.1 HT.out.2.1 (.inl HR.out)⟩, HZ.out.2⟩
           case measure => simp [RowKit.intOf]; omega
    | false =>
     have hRaw := stC_raw hC hlk hE
     have hgt := scanR_gt hlk hE
     have hle := (scanR_le nm (xs.drop k) k).2
     rw [List.length_drop] at hle
     obtain ⟨E, hEE⟩ : ∃ e, scanR nm (xs.drop k) k = e := ⟨_, rfl⟩
     rw [hEE] at hRaw hgt hle
     have CEk := CEn k lt wr hb
     rw [hE] at CEk
     have HC := Lib.hid CEn
     clear hRD hn2 CEn hNS hnv hE hC hne hnms
     go_wp2_with fail
     refine CEk.mono ?_
     rintro e w1 ⟨rfl, hb1⟩
     have HB1 := Lib.hid (And.intro (hO.below hb1) (And.intro (hb.trans (hb1.mono hb.size)) (And.intro hRaw (And.intro hgt (And.intro hEE HX.out.2.2.2)))))
     clear hO hb hRaw hgt hEE hb1 CEk
     go_wp2_with fail
     obtain ⟨Wb, hWb⟩ : ∃ V, w1.alloc (.cells #[.int .i64 7, .int .i64 (k : Int), .int .i64 (k : Int), .string ⟨#[]⟩, .int .i32 0, .bool false, .bool false] 39) = V := ⟨_, rfl⟩
     have bb : Below w1.heap.size w1 Wb := by rw [← hWb]; exact below_new _ _
     have xb : Cells Wb w1.heap.size 39 #[.int .i64 7, .int .i64 (k : Int), .int .i64 (k : Int), .string ⟨#[]⟩, .int .i32 0, .bool false, .bool false] := by rw [← hWb]; exact cells_new _ _ _
     have HS := Lib.hid (And.intro xb bb)
     rw [hWb]
     clear hWb xb bb
     go_loopw [] (fun wr => ∃ j : Nat, k ≤ j ∧ j ≤ N ∧ scanR nm (xs.drop j) j = E ∧ Cells wr w1.heap.size 39 #[.int .i64 7, .int .i64 (k : Int), .int .i64 (j : Int), .string ⟨#[]⟩, .int .i32 0, .bool false, .bool false] ∧ Below w1.heap.size w1 wr) (fun wr => N - posF wr w1.heap.size)
     case atStart => exact ⟨k, Nat.le_refl _, by omega, HB1.out.2.2.2.2.1, HS.out.1, HS.out.2⟩
     case round =>
      obtain ⟨j, hkj, hjN, hs, hx2, hb2⟩ := hrel
      have hbw := HB1.out.2.1.trans (hb2.mono HB1.out.2.1.size)
      have c2 : wr.cell? ⟨w1.heap.size, 2, none⟩ = some (.int .i64 (j : Int)) := hx2.cell 2
      by_cases hj : j < N
      case neg =>
       have i2 : ¬ (j : Int) < (N : Int) := by omega
       rw [List.drop_of_length_le (by have := HB1.out.2.2.2.2.2; omega), scanR] at hs
       subst hs
       clear hbw c2
       have hg : w1.heap.size < wr.heap.size := hx2.lt
       have hO2 := HB1.out.1.below hb2
       have x0 := hx2.cell 0
       have x1 := hx2.cell 1
       have x2 := hx2.cell 2
       have x3 := hx2.cell 3
       have x4 := hx2.cell 4
       have x5 := hx2.cell 5
       have x6 := hx2.cell 6
       simp at x0 x1 x2 x3 x4 x5 x6
       have HX2 := Lib.hid (And.intro hx2 (And.intro hO2 (And.intro hb2 hg)))
       clear hx2 hO2 hb2 hg
       go_wp2_with (first
        | (at_builtin; refine wpList_appF rfl (.tmp 42) (.tmp 44) rfl w.heap.size _ L ⟨7, k, j, [], 0, false⟩ rfl wr HX2.out.2.1 rfl rfl (by omega) (by have := HX2.out.2.2.2; have := HB1.out.2.1.size; omega) ?_)
        | fail)
       intro g5 cp5 w5 ho5 hb5 hk5
       have y5 : Cells w5 w1.heap.size 39 #[.int .i64 7, .int .i64 (k : Int), .int .i64 (j : Int), .string ⟨#[]⟩, .int .i32 0, .bool false, .bool false] := by
        have h1 := hk5 w1.heap.size HX2.out.2.2.2 (by intro e; have := (own_block_lt HB1.out.1 _ e).2; omega)
        exact h1.trans HX2.out.1
       have bw5 := (HB1.out.2.1.trans (HX2.out.2.2.1.mono HB1.out.2.1.size)).trans hb5
       have k5 := y5.cell 2
       replace k5 : w5.cell? ⟨w1.heap.size, 2, none⟩ = some (.int .i64 (j : Int)) := k5
       have HZ := Lib.hid (And.intro ho5 bw5)
       clear ho5 hb5 hk5 y5 bw5
       go_wp2_with fail
       go_roundw
       case rel => exact ⟨j, L ++ [⟨7, k, j, [], 0, false⟩], [], rfl, rfl, by omega, by simpa using HZ.out.1, by have := HB1.out.2.2.2.1; simp; omega, .inl ⟨rfl, HB1.out.2.2.1⟩, HZ.out.2⟩
       case measure => have := HB1.out.2.2.2.1; simp [RowKit.intOf]; omega
      case pos =>
       have i2 : (j : Int) < (N : Int) := by omega
       rw [scanR_at (by have := HB1.out.2.2.2.2.2; omega)] at hs
       have CEj := HC.out j hj wr hbw
       cases hEj : endR (xs.drop j) nm with
       | true =>
        rw [hEj, if_pos rfl] at hs
        rw [hEj] at CEj
        subst hs
        have HXr := Lib.hid (And.intro hx2 hb2)
        clear hx2 hb2 hbw hEj
        go_wp2_with fail
        refine CEj.mono ?_
        rintro e w2 ⟨rfl, hb3⟩
        have hx2 := HXr.out.1.on hb3
        have hb2 := HXr.out.2.trans (hb3.mono HXr.out.2.size)
        clear HXr CEj c2 hb3
        have hg : w1.heap.size < w2.heap.size := hx2.lt
        have hO2 := HB1.out.1.below hb2
        have x0 := hx2.cell 0
        have x1 := hx2.cell 1
        have x2 := hx2.cell 2
        have x3 := hx2.cell 3
        have x4 := hx2.cell 4
        have x5 := hx2.cell 5
        have x6 := hx2.cell 6
        simp at x0 x1 x2 x3 x4 x5 x6
        have HX2 := Lib.hid (And.intro hx2 (And.intro hO2 (And.intro hb2 hg)))
        clear hx2 hO2 hb2 hg
        go_wp2_with (first
         | (at_builtin; refine wpList_appF rfl (.tmp 42) (.tmp 44) rfl w.heap.size _ L ⟨7, k, j, [], 0, false⟩ rfl w2 HX2.out.2.1 rfl rfl (by omega) (by have := HX2.out.2.2.2; have := HB1.out.2.1.size; omega) ?_)
         | fail)
        intro g5 cp5 w5 ho5 hb5 hk5
        have y5 : Cells w5 w1.heap.size 39 #[.int .i64 7, .int .i64 (k : Int), .int .i64 (j : Int), .string ⟨#[]⟩, .int .i32 0, .bool false, .bool false] := by
         have h1 := hk5 w1.heap.size HX2.out.2.2.2 (by intro e; have := (own_block_lt HB1.out.1 _ e).2; omega)
         exact h1.trans HX2.out.1
        have bw5 := (HB1.out.2.1.trans (HX2.out.2.2.1.mono HB1.out.2.1.size)).trans hb5
        have k5 := y5.cell 2
        replace k5 : w5.cell? ⟨w1.heap.size, 2, none⟩ = some (.int .i64 (j : Int)) := k5
        have HZ := Lib.hid (And.intro ho5 bw5)
        clear ho5 hb5 hk5 y5 bw5
        go_wp2_with fail
        go_roundw
        case rel => exact ⟨j, L ++ [⟨7, k, j, [], 0, false⟩], [], rfl, rfl, by omega, by simpa using HZ.out.1, by have := HB1.out.2.2.2.1; simp; omega, .inl ⟨rfl, HB1.out.2.2.1⟩, HZ.out.2⟩
        case measure => have := HB1.out.2.2.2.1; simp [RowKit.intOf]; omega
       | false =>
        rw [hEj, if_neg (by simp)] at hs
        rw [hEj] at CEj
        have HXr := Lib.hid (And.intro hx2 (And.intro hb2 hs))
        clear hx2 hb2 hbw hEj hs
        have hpw : posF wr w1.heap.size = j := by unfold posF; rw [c2]; simp
        have HPW := Lib.hid hpw
        clear hpw
        go_wp2_with fail
        refine CEj.mono ?_
        rintro e w2 ⟨rfl, hb3⟩
        have hx2 := HXr.out.1.on hb3
        have hb2 := HXr.out.2.1.trans (hb3.mono HXr.out.2.1.size)
        have c3 : w2.cell? ⟨w1.heap.size, 2, none⟩ = some (.int .i64 (j : Int)) := hx2.cell 2
        have y2 : Cells (w2.setCell ⟨w1.heap.size, 2, none⟩ (.int .i64 ((j : Int) + 1))) w1.heap.size 39 #[.int .i64 7, .int .i64 (k : Int), .int .i64 ((j + 1 : Nat) : Int), .string ⟨#[]⟩, .int .i32 0, .bool false, .bool false] := hx2.set 2 _
        have b2 := Below.setc hb2 (Nat.le_refl _) 2 (.int .i64 ((j : Int) + 1))
        have f3 := hx2.froz 2
        have HY := Lib.hid (And.intro y2 b2)
        clear hx2 hb2 y2 b2 CEj c2 hb3
        go_wp2_with fail
        go_roundw
        case rel => exact ⟨j + 1, by omega, by omega, HXr.out.2.2, HY.out.1, HY.out.2⟩
        case measure =>
         have : posF (w2.setCell ⟨w1.heap.size, 2, none⟩ (.int .i64 ((j : Int) + 1))) w1.heap.size = j + 1 := by
          have := HY.out.1.cell 2
          unfold posF
          rw [this]
          simp
         rw [this, HPW.out]
         omega
structure FQ (w : World) (B : Nat) (l : List TK) (A : Option Addr) (c : Nat) : Prop where
 le : l.length ≤ c
 mx : c ≤ maxLen
 r : ∀ (i : Nat) (x : TK), l[i]? = some x → ∃ b o, A = some ⟨b, o, none⟩ ∧ b < B ∧ w.cell? ⟨b, o + i * 7, none⟩ = some (.int .i64 (x.kind : Int)) ∧ w.cell? ⟨b, o + (i * 7 + 1), none⟩ = some (.int .i64 (x.fr : Int)) ∧
  w.cell? ⟨b, o + (i * 7 + 2), none⟩ = some (.int .i64 (x.to : Int)) ∧ w.cell? ⟨b, o + (i * 7 + 3), none⟩ = some (.string ⟨(G.u8s x.name).toArray⟩) ∧ w.cell? ⟨b, o + (i * 7 + 4), none⟩ = some (.int .i32 x.r) ∧ w.cell? ⟨b, o + (i * 7 + 5), none⟩ = some (.bool x.sg) ∧ w.cell? ⟨b, o + (i * 7 + 6), none⟩ = some (.bool false)
theorem FQ.below {w w' : World} {B : Nat} {l : List TK} {A : Option Addr} {c : Nat} (h : FQ w B l A c) (hb : Below B w w') : FQ w' B l A c :=
 ⟨h.le, h.mx, fun i a ha => by
  obtain ⟨b, o, e, h1, h2, h3, h4, h5, h6, h7, h8⟩ := h.r i a ha
  exact ⟨b, o, e, h1, (hb.cell (p := ⟨b, _, none⟩) h1).trans h2, (hb.cell (p := ⟨b, _, none⟩) h1).trans h3, (hb.cell (p := ⟨b, _, none⟩) h1).trans h4, (hb.cell (p := ⟨b, _, none⟩) h1).trans h5, (hb.cell (p := ⟨b, _, none⟩) h1).trans h6, (hb.cell (p := ⟨b, _, none⟩) h1).trans h7, (hb.cell (p := ⟨b, _, none⟩) h1).trans h8⟩⟩
theorem FQ.mono {w : World} {B B' : Nat} {l : List TK} {A : Option Addr} {c : Nat} (h : FQ w B l A c) (hB : B ≤ B') : FQ w B' l A c :=
 ⟨h.le, h.mx, fun i a ha => by
  obtain ⟨b, o, e, h1, h2⟩ := h.r i a ha
  exact ⟨b, o, e, by omega, h2⟩⟩
theorem FQ.on {w w' : World} {l : List TK} {A : Option Addr} {c : Nat} (h : FQ w w.heap.size l A c) (hb : Below w.heap.size w w') : FQ w' w'.heap.size l A c := (h.below hb).mono hb.size
theorem FQ.of_own {w : World} {base : Nat} {l : List TK} {v : Value} (h : OwnF w base l v) : ∃ A c, v = .slice A l.length c ∧ FQ w w.heap.size l A c := by
 rcases h.2 with ⟨h1, h2⟩ | ⟨g, cap, cur, h1, h2, h3, h4, h5, h6, h7⟩
 ·have hn : l = [] := List.eq_nil_of_length_eq_zero h2
  subst hn
  exact ⟨none, 0, by rw [h1]; rfl, ⟨Nat.le_refl _, by unfold maxLen; omega, fun i a ha => by simp at ha⟩⟩
 ·refine ⟨_, cap, h1, ⟨h4, h5, fun i a ha => ⟨g, 0, rfl, (Array.getElem?_eq_some_iff.1 h3).1, ?_⟩⟩⟩
  have c := fun j hj u (hu : (refC a false)[j]? = some u) => World.ownsRow.cells h (g := g) (by rw [h1]; rfl) (i * 7 + j) u ((rowF_at l i a ha j hj).trans hu)
  have d0 := c 0 (by omega) _ rfl
  have d1 := c 1 (by omega) _ rfl
  have d2 := c 2 (by omega) _ rfl
  have d3 := c 3 (by omega) _ rfl
  have d4 := c 4 (by omega) _ rfl
  have d5 := c 5 (by omega) _ rfl
  have d6 := c 6 (by omega) _ rfl
  rw [add0] at d0 d1 d2 d3 d4 d5 d6
  simp only [Nat.zero_add]
  exact ⟨d0, d1, d2, d3, d4, d5, d6⟩
end Go.Proofs.YtfafhbgkmlmmdaaGreatDoor
