/-
  Contract: tag.Write.
-/
import Derived.Test.YtplnkmojkdbbnaaAps
import Derived.Test.YtplnkmojkdbbnaaAlk
namespace Go.Proofs.Ytplnkmojkdbbnaa
open Go.RowKit Go.Shelf Go.Lib Go.Maps Go.Sort

def headL (kd : Int) : List Nat := if kd = 0 then [60] else [60, 47]
def wrA1 (a : AT) : List Nat := [32] ++ a.1 ++ [61, 34] ++ a.2 ++ [34]
def wrA (l : List AT) : List Nat := l.flatMap wrA1
def okA (a : AT) : Bool := plnB a.1 && !a.2.contains 34
def rightT (kd : Int) (nm : List Nat) (L : List AT) : Bool := (decide (kd = 0) || decide (kd = 1)) && (plnB nm && L.all okA)
def wrL (kd : Int) (nm : List Nat) (L : List AT) (sg : Bool) : List Nat := headL kd ++ nm ++ wrA L ++ (if sg then [32, 47] else []) ++ [62]
/-- What is written: nothing if it may not be. -/
def wrT (kd : Int) (nm : List Nat) (L : List AT) (sg : Bool) : List Nat := if rightT kd nm L then wrL kd nm L sg else []
theorem wrA_snoc {L : List AT} {k : Nat} {a : AT} (h : L[k]? = some a) : wrA (L.take (k + 1)) = wrA (L.take k) ++ wrA1 a := by
  unfold wrA
  rw [List.take_add_one, h]
  simp
theorem wrA_take_le (L : List AT) (k : Nat) : (wrA (L.take k)).length ≤ (wrA L).length := by
  have h : wrA L = wrA (L.take k) ++ wrA (L.drop k) := by
    unfold wrA
    rw [← List.flatMap_append, List.take_append_drop]
  rw [h, List.length_append]
  omega
theorem wrT_kind {kd : Int} {nm : List Nat} {L : List AT} {sg : Bool} (h0 : kd ≠ 0) (h1 : kd ≠ 1) : wrT kd nm L sg = [] := by
  unfold wrT rightT
  simp [h0, h1]
theorem wrT_name {kd : Int} {nm : List Nat} {L : List AT} {sg : Bool} (h : plnB nm = false) : wrT kd nm L sg = [] := by
  unfold wrT rightT
  simp [h]
theorem wrT_attr {kd : Int} {nm : List Nat} {L : List AT} {sg : Bool} {k : Nat} {a : AT} (hx : L[k]? = some a) (h : okA a = false) : wrT kd nm L sg = [] := by
  have e : L.all okA = false := by
    rw [List.all_eq_false]
    exact ⟨a, List.mem_of_getElem? hx, by simp [h]⟩
  unfold wrT rightT
  simp [e]
theorem wrT_right {kd : Int} {nm : List Nat} {L : List AT} {sg : Bool} (hk : kd = 0 ∨ kd = 1) (hn : plnB nm = true) (h : ∀ (j : Nat) (a : AT), L[j]? = some a → okA a = true) : wrT kd nm L sg = wrL kd nm L sg := by
  have e : L.all okA = true := by
    rw [List.all_eq_true]
    intro a ha
    obtain ⟨j, hj, e⟩ := List.getElem_of_mem ha
    exact h j a (by rw [List.getElem?_eq_getElem hj, e])
  unfold wrT rightT
  rcases hk with rfl | rfl <;> simp [e, hn]
theorem okA_snoc {l : List AT} {k : Nat} {x : AT} (hx : l[k]? = some x) (hp : okA x = true) (h : ∀ (j : Nat) (y : AT), j < k → l[j]? = some y → okA y = true) : ∀ (j : Nat) (y : AT), j < k + 1 → l[j]? = some y → okA y = true := fun j y hj hy => by
  by_cases e : j = k
  · subst e
    have := hy.symm.trans hx
    injection this with this
    rw [this]
    exact hp
  · exact h j y (by omega) hy
theorem cat4 (a : AT) : ∃ C1 C2 C3 : ByteArray, (⟨#[32]⟩ : ByteArray) ++ ⟨(u8s a.1).toArray⟩ = C1 ∧ C1 ++ ⟨#[61, 34]⟩ = C2 ∧ C2 ++ ⟨(u8s a.2).toArray⟩ = C3 ∧ C3 ++ ⟨#[34]⟩ = ⟨(u8s (wrA1 a)).toArray⟩ ∧ C1.size = 1 + a.1.length ∧ C2.size = 3 + a.1.length ∧ C3.size = 3 + a.1.length + a.2.length :=
  ⟨⟨(u8s ([32] ++ a.1)).toArray⟩, ⟨(u8s ([32] ++ a.1 ++ [61, 34])).toArray⟩, ⟨(u8s ([32] ++ a.1 ++ [61, 34] ++ a.2)).toArray⟩, app_str [32] a.1, app_str _ [61, 34], app_str _ a.2, app_str _ [34], by rw [size_str]; simp; omega, by rw [size_str]; simp; omega, by rw [size_str]; simp; omega⟩
theorem wrA_256 {L : List AT} (hL : ∀ a ∈ L, (∀ x ∈ a.1, x < 256) ∧ (∀ x ∈ a.2, x < 256)) : ∀ x ∈ wrA L, x < 256 := fun x hx => by
  unfold wrA at hx
  obtain ⟨a, ha, h⟩ := List.mem_flatMap.1 hx
  have := hL a ha
  unfold wrA1 at h
  simp at h
  rcases h with rfl | h | rfl | rfl | h | rfl
  · omega
  · exact this.1 x h
  · omega
  · omega
  · exact this.2 x h
  · omega
theorem wrA1_256 {a : AT} (h : (∀ x ∈ a.1, x < 256) ∧ (∀ x ∈ a.2, x < 256)) : ∀ x ∈ wrA1 a, x < 256 := fun x hx => by
  refine wrA_256 (L := [a]) (fun b hb => ?_) x (by unfold wrA; simpa using hx)
  obtain rfl : b = a := by simpa using hb
  exact h
theorem wrA1_len (a : AT) : (wrA1 a).length = a.1.length + a.2.length + 4 := by unfold wrA1; simp; omega
set_option maxHeartbeats 16000000 in
set_option maxRecDepth 100000 in
theorem write_any (kd sz : Int) (nm : List Nat) (L : List AT) (sg cl : Bool) (A : Option Addr) (c : Nat) (w : World) (h : AS w w.heap.size L A c) (hn : ∀ x ∈ nm, x < 256) (hL : ∀ a ∈ L, (∀ x ∈ a.1, x < 256) ∧ (∀ x ∈ a.2, x < 256)) (hlen : nm.length + (wrA L).length ≤ 100000) :
    Calls Try.prog 13 #[.agg #[.int .i64 kd, .int .i64 sz, strV nm, .slice A L.length c, .bool sg, .bool cl]] w fun e w' => e = .returned (strV (wrT kd nm L sg)) ∧ Below w.heap.size w w' := by
  have K26 := fun W => mayWrite_any nm hn (by omega) W
  unfold strV at K26 ⊢
  obtain ⟨SN, hSN⟩ : ∃ S : ByteArray, ⟨(u8s nm).toArray⟩ = S := ⟨_, rfl⟩
  rw [hSN] at K26 ⊢
  have hcl : L.length ≤ c := h.le
  have hcm : c ≤ 9223372036854775807 := by have := h.mx; unfold maxLen at this; omega
  obtain ⟨N, hN⟩ : ∃ N, L.length = N := ⟨_, rfl⟩
  rw [hN] at hcl ⊢
  obtain ⟨R, hR⟩ : ∃ R, wrT kd nm L sg = R := ⟨_, rfl⟩
  rw [hR]
  obtain ⟨W1, hW1⟩ : ∃ W, w.alloc (.cells #[.int .i64 kd, .int .i64 sz, .string SN, .slice A N c, .bool sg, .bool cl] 26) = W := ⟨_, rfl⟩
  have b1 : Below w.heap.size w W1 := by rw [← hW1]; exact below_new _ _
  have x1 : Cells W1 w.heap.size 26 #[.int .i64 kd, .int .i64 sz, .string SN, .slice A N c, .bool sg, .bool cl] := by rw [← hW1]; exact cells_new _ _ _
  have z1 : W1.heap.size = w.heap.size + 1 := by rw [← hW1]; simp
  have a1 : AS W1 W1.heap.size L A c := by rw [← hW1]; exact h.on (below_new _ _)
  have HZ := Lib.hid z1
  clear z1
  have p0 := x1.cell 0
  have p2 := x1.cell 2
  simp at p0 p2
  have HH := Lib.hid (And.intro K26 (And.intro b1 (And.intro x1 (And.intro a1 (And.intro hN (And.intro hR (And.intro hn (And.intro hL (And.intro hlen hSN)))))))))
  clear K26 b1 x1 a1 hN hR hn hL hlen h hSN
  by_cases k0 : kd = 0
  case neg =>
    by_cases k1 : kd = 1
    case neg =>
      have d0 : (kd == 0) = false := by simpa using k0
      have d1 : (kd == 1) = false := by simpa using k1
      have e := wrT_kind (nm := nm) (L := L) (sg := sg) k0 k1
      rw [HH.out.2.2.2.2.2.1] at e
      have HE := Lib.hid e
      clear e k0 k1
      go_enter Try.func13, Try.ntmps13
      go_wp2_with fail
      go_ret
      exact ⟨by rw [HE.out]; rfl, HH.out.2.1⟩
    subst k1
    clear k0
    go_enter Try.func13, Try.ntmps13
    go_wp2_with (first
      | (at_builtin
         refine wpList_appStr rfl (.tmp 14) (.const (.string ⟨#[60, 47]⟩)) rfl W1.heap.size _ [] ([60, 47] : List Nat) ⟨#[60, 47]⟩ rfl rfl (ownB_nil _ _) rfl (by simp) (by simp) (Nat.le_refl _) ?_)
      | fail)
    intro v1 w1 o1 hb1
    have H1 := Lib.hid (And.intro o1 hb1)
    have x1 := HH.out.2.2.1.on hb1
    have p2 := x1.cell 2
    simp at p2
    clear o1 hb1 x1 p0
    go_wp2_with fail
    refine (HH.out.1 _).mono ?_
    rintro r w2 ⟨rfl, hb2⟩
    have b2 : Below W1.heap.size W1 w2 := H1.out.2.trans (hb2.mono H1.out.2.size)
    have bw2 : Below w.heap.size w w2 := HH.out.2.1.trans (b2.mono (by have := HZ.out; omega))
    cases hp : plnB nm with
    | false =>
      have e := wrT_name (kd := (1 : Int)) (L := L) (sg := sg) hp
      rw [HH.out.2.2.2.2.2.1] at e
      have HE := Lib.hid (And.intro e bw2)
      clear e bw2 b2 hb2 hp p2
      go_wp2_with fail
      go_ret
      exact ⟨by rw [HE.out.1]; rfl, HE.out.2⟩
    | true =>
      have o2 := H1.out.1.below hb2
      have x2 := HH.out.2.2.1.on b2
      have q2 := x2.cell 2
      have q3 := x2.cell 3
      simp at q2 q3
      have H2 := Lib.hid (And.intro o2 (And.intro b2 hp))
      clear o2 b2 bw2 hb2 hp x2 p2
      go_wp2_with (first
        | (at_builtin
           refine wpList_appStr rfl (.tmp 20) (.tmp 22) rfl W1.heap.size _ _ nm SN HH.out.2.2.2.2.2.2.2.2.2 rfl H2.out.1 rfl HH.out.2.2.2.2.2.2.1 (by have := HH.out.2.2.2.2.2.2.2.2.1; simp; omega) H2.out.2.1.size ?_)
        | fail)
      intro v3 w3 o3 hb3
      have b3 : Below W1.heap.size W1 w3 := H2.out.2.1.trans hb3
      have x3 := HH.out.2.2.1.on b3
      have q3 := x3.cell 3
      simp at q3
      have H3 := Lib.hid (And.intro o3 b3)
      clear o3 b3 hb3 x3 q2
      go_wp2_with fail
      go_loopw [3, 27] (fun out i wr => ∃ (k : Nat) (v : Value), out = v ∧ i = .int .i64 (k : Int) ∧ k ≤ N ∧ OwnB wr W1.heap.size ([] ++ ([60, 47] : List Nat) ++ nm ++ wrA (L.take k)) v ∧ Below W1.heap.size W1 wr ∧ (∀ (j : Nat) (y : AT), j < k → L[j]? = some y → okA y = true)) (fun _ i _ => N - (RowKit.intOf i).toNat)
      case atStart => exact ⟨0, v3, rfl, by go_num, by omega, by simpa [wrA] using H3.out.1, H3.out.2, fun j y hj => absurd hj (by omega)⟩
      case round =>
        obtain ⟨k, v, rfl, rfl, hk, ho, hb, hok⟩ := hrel
        by_cases hlt : k < N
        case neg =>
          obtain rfl : k = N := by omega
          have hex : ∀ (j : Nat) (y : AT), L[j]? = some y → okA y = true := fun j y hy => hok j y (by have := (List.getElem?_eq_some_iff.1 hy).1; have := HH.out.2.2.2.2.1; omega) hy
          have e := wrT_right (kd := (1 : Int)) (sg := sg) (.inr rfl) H2.out.2.2 hex
          rw [HH.out.2.2.2.2.2.1] at e
          rw [List.take_of_length_le (by rw [HH.out.2.2.2.2.1]; exact Nat.le_refl _)] at ho
          have x4 := HH.out.2.2.1.on hb
          have q4 := x4.cell 4
          simp at q4
          have h256 : ∀ x ∈ [] ++ ([60, 47] : List Nat) ++ nm ++ wrA L, x < 256 := fun x hx => by
            simp only [List.mem_append] at hx
            rcases hx with ((hx | hx) | hx) | hx
            · cases hx
            · simp at hx; omega
            · exact HH.out.2.2.2.2.2.2.1 x hx
            · exact wrA_256 HH.out.2.2.2.2.2.2.2.1 x hx
          have hln : ([] ++ ([60, 47] : List Nat) ++ nm ++ wrA L).length ≤ 100002 := by have := HH.out.2.2.2.2.2.2.2.2.1; simp; omega
          obtain ⟨l4, hl4⟩ : ∃ l, [] ++ ([60, 47] : List Nat) ++ nm ++ wrA L = l := ⟨_, rfl⟩
          rw [hl4] at ho h256 hln
          have HE := Lib.hid (And.intro e (And.intro ho (And.intro hb (And.intro h256 (And.intro hln hl4)))))
          clear e ho hb h256 hln hl4 hex hok x4 q3
          cases sg with
          | true =>
            go_wp2_with (first
              | (at_builtin
                 refine wpList_appStr rfl (.tmp 53) (.const (.string ⟨#[32, 47]⟩)) rfl W1.heap.size _ l4 [32, 47] ⟨#[32, 47]⟩ rfl rfl HE.out.2.1 rfl (by simp) (by have := HE.out.2.2.2.2.1; simp; omega) HE.out.2.2.1.size ?_)
              | fail)
            intro v6 w6 o6 hb6
            have B7 := by_lit1 w6 62 (by decide)
            have o7 := o6.below (below_new w6 (.cells #[.int .u8 62] 5))
            have b6 := HE.out.2.2.1.trans hb6
            have H7 := Lib.hid (And.intro B7 (And.intro o7 b6))
            clear o6 hb6 B7 o7 b6 q4
            go_wp2_with (first
              | (at_builtin
                 refine wpList_appBs rfl (.tmp 55) (.tmp 56) rfl W1.heap.size _ _ [62] rfl H7.out.2.1 (some ⟨w6.heap.size, 0, none⟩) 1 1 rfl rfl H7.out.1 (by have := HE.out.2.2.2.2.1; simp; omega) (by have := H7.out.2.2.size; rw [World.size_alloc]; omega) ?_)
              | fail)
            intro v8 w8 o8 hb8
            obtain ⟨l8, hl8⟩ : ∃ l, l4 ++ [32, 47] ++ [62] = l := ⟨_, rfl⟩
            have o8 : OwnB w8 W1.heap.size l8 v8 := by
              rw [← hl8]
              simpa using o8
            obtain ⟨A8, c8, rfl, B8⟩ := o8.by (by
              rw [← hl8]
              intro x hx
              simp only [List.mem_append] at hx
              rcases hx with (hx | hx) | hx
              · exact HE.out.2.2.2.1 x hx
              · simp at hx; omega
              · simp at hx; omega)
            have hcv := conv_by B8
            obtain ⟨Z, hZ⟩ : ∃ S : ByteArray, ⟨(u8s l8).toArray⟩ = S := ⟨_, rfl⟩
            rw [hZ] at hcv
            generalize l8.length = n8 at *
            have b8 : Below W1.heap.size W1 w8 := H7.out.2.2.trans (((below_new w6 (.cells #[.int .u8 62] 5)).mono H7.out.2.2.size).trans hb8)
            have HF := Lib.hid (And.intro (HH.out.2.1.trans (b8.mono (by have := HZ.out; omega))) (And.intro hZ hl8))
            clear b8 hb8 o8 B8 hZ hl8
            go_wp2_with fail
            go_ret
            refine ⟨?_, HF.out.1⟩
            rw [HE.out.1, ← HF.out.2.1, ← HF.out.2.2, ← HE.out.2.2.2.2.2]
            rfl
          | false =>
            have B7 := by_lit1 wr 62 (by decide)
            have o7 := HE.out.2.1.below (below_new wr (.cells #[.int .u8 62] 5))
            have H7 := Lib.hid (And.intro B7 (And.intro o7 HE.out.2.2.1))
            clear B7 o7
            go_wp2_with (first
              | (at_builtin
                 refine wpList_appBs rfl (.tmp 55) (.tmp 56) rfl W1.heap.size _ _ [62] rfl H7.out.2.1 (some ⟨wr.heap.size, 0, none⟩) 1 1 rfl rfl H7.out.1 (by have := HE.out.2.2.2.2.1; simp; omega) (by have := H7.out.2.2.size; rw [World.size_alloc]; omega) ?_)
              | fail)
            intro v8 w8 o8 hb8
            obtain ⟨l8, hl8⟩ : ∃ l, l4 ++ [62] = l := ⟨_, rfl⟩
            have o8 : OwnB w8 W1.heap.size l8 v8 := by
              rw [← hl8]
              simpa using o8
            obtain ⟨A8, c8, rfl, B8⟩ := o8.by (by
              rw [← hl8]
              intro x hx
              simp only [List.mem_append] at hx
              rcases hx with hx | hx
              · exact HE.out.2.2.2.1 x hx
              · simp at hx; omega)
            have hcv := conv_by B8
            obtain ⟨Z, hZ⟩ : ∃ S : ByteArray, ⟨(u8s l8).toArray⟩ = S := ⟨_, rfl⟩
            rw [hZ] at hcv
            generalize l8.length = n8 at *
            have b8 : Below W1.heap.size W1 w8 := H7.out.2.2.trans (((below_new wr (.cells #[.int .u8 62] 5)).mono H7.out.2.2.size).trans hb8)
            have HF := Lib.hid (And.intro (HH.out.2.1.trans (b8.mono (by have := HZ.out; omega))) (And.intro hZ hl8))
            clear b8 hb8 o8 B8 hZ hl8
            go_wp2_with fail
            go_ret
            refine ⟨?_, HF.out.1⟩
            rw [HE.out.1, ← HF.out.2.1, ← HF.out.2.2, ← HE.out.2.2.2.2.2]
            unfold wrL
            rw [if_neg (by decide), List.append_nil]
            rfl
        have i1 : (k : Int) < (N : Int) := by omega
        obtain ⟨a, hx⟩ := at_lt (l := L) (k := k) (by rw [HH.out.2.2.2.2.1]; exact hlt)
        have ha := HH.out.2.2.2.2.2.2.2.1 a (List.mem_of_getElem? hx)
        have hsn := wrA_snoc hx
        have hle : (wrA (L.take k)).length + (a.1.length + a.2.length + 4) ≤ (wrA L).length := by
          have := wrA_take_le L (k + 1)
          rw [hsn, List.length_append, wrA1_len] at this
          exact this
        have hll := HH.out.2.2.2.2.2.2.2.2.1
        have hl1 : a.1.length ≤ 100000 := by omega
        have hl2 : a.2.length ≤ 100000 := by omega
        obtain ⟨b, o, rfl, hbl, f0, f1⟩ := (HH.out.2.2.2.1.on hb).r k a hx
        rw [← Nat.add_assoc] at f1
        obtain ⟨C1, C2, C3, g1, g2, g3, g4, z1, z2, z3⟩ := cat4 a
        have zn : (⟨(u8s a.1).toArray⟩ : ByteArray).size = a.1.length := size_str _
        have zv : (⟨(u8s a.2).toArray⟩ : ByteArray).size = a.2.length := size_str _
        have K1 := fun W => mayWrite_any a.1 ha.1 (by omega) W
        unfold strV at K1
        have K2 : ∀ W, Calls Try.prog 27 #[.string ⟨(u8s a.2).toArray⟩, .string ⟨#[34]⟩] W fun e w' => e = .returned (.bool (a.2.contains 34)) ∧ w' = W := fun W => by
          have h := Try.strings_Contains_one ⟨(u8s a.2).toArray⟩ 34 W
          rw [show decide (0 ≤ Lib.indexByte (⟨(u8s a.2).toArray⟩ : ByteArray).data.toList 34) = a.2.contains 34 from (indexByte_mem 34 (by omega) a.2 ha.2).1] at h
          exact h
        obtain ⟨SA, hSA⟩ : ∃ S : ByteArray, ⟨(u8s a.1).toArray⟩ = S := ⟨_, rfl⟩
        obtain ⟨SV, hSV⟩ : ∃ S : ByteArray, ⟨(u8s a.2).toArray⟩ = S := ⟨_, rfl⟩
        obtain ⟨SC, hSC⟩ : ∃ S : ByteArray, ⟨(u8s (wrA1 a)).toArray⟩ = S := ⟨_, rfl⟩
        rw [hSA] at f0 g1 zn K1
        rw [hSV] at f1 g3 zv K2
        rw [hSC] at g4
        obtain ⟨W4, hW4⟩ : ∃ W, wr.alloc (.cells #[.string SA, .string SV] 40) = W := ⟨_, rfl⟩
        have b4 : Below wr.heap.size wr W4 := by rw [← hW4]; exact below_new _ _
        have y : Cells W4 wr.heap.size 40 #[.string SA, .string SV] := by rw [← hW4]; exact cells_new _ _ _
        have y0 := y.cell 0
        have y1 := y.cell 1
        simp at y0 y1
        have HK := Lib.hid (And.intro (ho.below b4) (And.intro (hb.trans (b4.mono hb.size)) (And.intro y (And.intro hok (And.intro hx (And.intro K2 (And.intro hsn (And.intro hSC (And.intro ha hle)))))))))
        have K1 := Lib.hid (K1 W4)
        clear ho hb hok hx ha hsn hle hSA hSV hSC y b4 hbl K2 hll
        go_wp2_with fail
        refine K1.out.mono ?_
        rintro r w5 ⟨rfl, hb5⟩
        have b5 : Below W1.heap.size W1 w5 := HK.out.2.1.trans (hb5.mono HK.out.2.1.size)
        have bw5 : Below w.heap.size w w5 := HH.out.2.1.trans (b5.mono (by have := HZ.out; omega))
        have y5 := HK.out.2.2.1.on hb5
        have y0 := y5.cell 0
        have y1 := y5.cell 1
        simp at y0 y1
        cases hp : plnB a.1 with
        | false =>
          have e := wrT_attr (kd := (1 : Int)) (nm := nm) (sg := sg) HK.out.2.2.2.2.1 (by unfold okA; rw [hp]; rfl)
          rw [HH.out.2.2.2.2.2.1] at e
          have HE := Lib.hid (And.intro e bw5)
          clear e bw5 b5 hb5 hp hW4 f0 f1 y5
          go_wp2_with fail
          go_ret
          exact ⟨by rw [HE.out.1]; rfl, HE.out.2⟩
        | true =>
          have H5 := Lib.hid (And.intro hp (And.intro b5 (And.intro bw5 (HK.out.1.below hb5))))
          clear hp b5 bw5 hb5 hW4 f0 f1 y5
          go_wp2_with fail
          refine (HK.out.2.2.2.2.2.1 _).mono ?_
          rintro r w5' ⟨rfl, e5⟩
          obtain rfl := e5.symm
          clear e5
          cases hc : a.2.contains 34 with
          | true =>
            have e := wrT_attr (kd := (1 : Int)) (nm := nm) (sg := sg) HK.out.2.2.2.2.1 (by unfold okA; rw [hc]; simp)
            rw [HH.out.2.2.2.2.2.1] at e
            have HE := Lib.hid e
            clear e hc
            go_wp2_with fail
            go_ret
            exact ⟨by rw [HE.out]; rfl, H5.out.2.2.1⟩
          | false =>
            have hk1 := okA_snoc HK.out.2.2.2.2.1 (by unfold okA; rw [H5.out.1, hc]; rfl) HK.out.2.2.2.1
            have HE := Lib.hid hk1
            clear hk1 hc
            go_wp2_with (first
              | (at_builtin
                 refine wpList_appStr rfl (.tmp 40) (.tmp 48) rfl W1.heap.size _ _ (wrA1 a) SC HK.out.2.2.2.2.2.2.2.1 rfl H5.out.2.2.2 rfl (wrA1_256 HK.out.2.2.2.2.2.2.2.2.1) (by have := HH.out.2.2.2.2.2.2.2.2.1; have := HK.out.2.2.2.2.2.2.2.2.2; rw [wrA1_len]; simp; omega) H5.out.2.1.size ?_)
              | fail)
            intro v6 w6 o6 hb6
            have o6 : OwnB w6 W1.heap.size ([] ++ ([60, 47] : List Nat) ++ nm ++ wrA (L.take (k + 1))) v6 := by
              rw [HK.out.2.2.2.2.2.2.1]
              simpa using o6
            have H6 := Lib.hid (And.intro o6 (H5.out.2.1.trans hb6))
            clear o6 hb6 y0 y1
            go_wp2_with fail
            go_roundw
            case rel => exact ⟨k + 1, v6, rfl, by go_num, by omega, H6.out.1, H6.out.2, HE.out⟩
            case measure => simp [RowKit.intOf]; omega
  subst k0
  go_enter Try.func13, Try.ntmps13
  go_wp2_with (first
    | (at_builtin
       refine wpList_appStr rfl (.tmp 10) (.const (.string ⟨#[60]⟩)) rfl W1.heap.size _ [] ([60] : List Nat) ⟨#[60]⟩ rfl rfl (ownB_nil _ _) rfl (by simp) (by simp) (Nat.le_refl _) ?_)
    | fail)
  intro v1 w1 o1 hb1
  have H1 := Lib.hid (And.intro o1 hb1)
  have x1 := HH.out.2.2.1.on hb1
  have p2 := x1.cell 2
  simp at p2
  clear o1 hb1 x1 p0
  go_wp2_with fail
  refine (HH.out.1 _).mono ?_
  rintro r w2 ⟨rfl, hb2⟩
  have b2 : Below W1.heap.size W1 w2 := H1.out.2.trans (hb2.mono H1.out.2.size)
  have bw2 : Below w.heap.size w w2 := HH.out.2.1.trans (b2.mono (by have := HZ.out; omega))
  cases hp : plnB nm with
  | false =>
    have e := wrT_name (kd := (0 : Int)) (L := L) (sg := sg) hp
    rw [HH.out.2.2.2.2.2.1] at e
    have HE := Lib.hid (And.intro e bw2)
    clear e bw2 b2 hb2 hp p2
    go_wp2_with fail
    go_ret
    exact ⟨by rw [HE.out.1]; rfl, HE.out.2⟩
  | true =>
    have o2 := H1.out.1.below hb2
    have x2 := HH.out.2.2.1.on b2
    have q2 := x2.cell 2
    have q3 := x2.cell 3
    simp at q2 q3
    have H2 := Lib.hid (And.intro o2 (And.intro b2 hp))
    clear o2 b2 bw2 hb2 hp x2 p2
    go_wp2_with (first
      | (at_builtin
         refine wpList_appStr rfl (.tmp 20) (.tmp 22) rfl W1.heap.size _ _ nm SN HH.out.2.2.2.2.2.2.2.2.2 rfl H2.out.1 rfl HH.out.2.2.2.2.2.2.1 (by have := HH.out.2.2.2.2.2.2.2.2.1; simp; omega) H2.out.2.1.size ?_)
      | fail)
    intro v3 w3 o3 hb3
    have b3 : Below W1.heap.size W1 w3 := H2.out.2.1.trans hb3
    have x3 := HH.out.2.2.1.on b3
    have q3 := x3.cell 3
    simp at q3
    have H3 := Lib.hid (And.intro o3 b3)
    clear o3 b3 hb3 x3 q2
    go_wp2_with fail
    go_loopw [3, 27] (fun out i wr => ∃ (k : Nat) (v : Value), out = v ∧ i = .int .i64 (k : Int) ∧ k ≤ N ∧ OwnB wr W1.heap.size ([] ++ ([60] : List Nat) ++ nm ++ wrA (L.take k)) v ∧ Below W1.heap.size W1 wr ∧ (∀ (j : Nat) (y : AT), j < k → L[j]? = some y → okA y = true)) (fun _ i _ => N - (RowKit.intOf i).toNat)
    case atStart => exact ⟨0, v3, rfl, by go_num, by omega, by simpa [wrA] using H3.out.1, H3.out.2, fun j y hj => absurd hj (by omega)⟩
    case round =>
      obtain ⟨k, v, rfl, rfl, hk, ho, hb, hok⟩ := hrel
      by_cases hlt : k < N
      case neg =>
        obtain rfl : k = N := by omega
        have hex : ∀ (j : Nat) (y : AT), L[j]? = some y → okA y = true := fun j y hy => hok j y (by have := (List.getElem?_eq_some_iff.1 hy).1; have := HH.out.2.2.2.2.1; omega) hy
        have e := wrT_right (kd := (0 : Int)) (sg := sg) (.inl rfl) H2.out.2.2 hex
        rw [HH.out.2.2.2.2.2.1] at e
        rw [List.take_of_length_le (by rw [HH.out.2.2.2.2.1]; exact Nat.le_refl _)] at ho
        have x4 := HH.out.2.2.1.on hb
        have q4 := x4.cell 4
        simp at q4
        have h256 : ∀ x ∈ [] ++ ([60] : List Nat) ++ nm ++ wrA L, x < 256 := fun x hx => by
          simp only [List.mem_append] at hx
          rcases hx with ((hx | hx) | hx) | hx
          · cases hx
          · simp at hx; omega
          · exact HH.out.2.2.2.2.2.2.1 x hx
          · exact wrA_256 HH.out.2.2.2.2.2.2.2.1 x hx
        have hln : ([] ++ ([60] : List Nat) ++ nm ++ wrA L).length ≤ 100002 := by have := HH.out.2.2.2.2.2.2.2.2.1; simp; omega
        obtain ⟨l4, hl4⟩ : ∃ l, [] ++ ([60] : List Nat) ++ nm ++ wrA L = l := ⟨_, rfl⟩
        rw [hl4] at ho h256 hln
        have HE := Lib.hid (And.intro e (And.intro ho (And.intro hb (And.intro h256 (And.intro hln hl4)))))
        clear e ho hb h256 hln hl4 hex hok x4 q3
        cases sg with
        | true =>
          go_wp2_with (first
            | (at_builtin
               refine wpList_appStr rfl (.tmp 53) (.const (.string ⟨#[32, 47]⟩)) rfl W1.heap.size _ l4 [32, 47] ⟨#[32, 47]⟩ rfl rfl HE.out.2.1 rfl (by simp) (by have := HE.out.2.2.2.2.1; simp; omega) HE.out.2.2.1.size ?_)
            | fail)
          intro v6 w6 o6 hb6
          have B7 := by_lit1 w6 62 (by decide)
          have o7 := o6.below (below_new w6 (.cells #[.int .u8 62] 5))
          have b6 := HE.out.2.2.1.trans hb6
          have H7 := Lib.hid (And.intro B7 (And.intro o7 b6))
          clear o6 hb6 B7 o7 b6 q4
          go_wp2_with (first
            | (at_builtin
               refine wpList_appBs rfl (.tmp 55) (.tmp 56) rfl W1.heap.size _ _ [62] rfl H7.out.2.1 (some ⟨w6.heap.size, 0, none⟩) 1 1 rfl rfl H7.out.1 (by have := HE.out.2.2.2.2.1; simp; omega) (by have := H7.out.2.2.size; rw [World.size_alloc]; omega) ?_)
            | fail)
          intro v8 w8 o8 hb8
          obtain ⟨l8, hl8⟩ : ∃ l, l4 ++ [32, 47] ++ [62] = l := ⟨_, rfl⟩
          have o8 : OwnB w8 W1.heap.size l8 v8 := by
            rw [← hl8]
            simpa using o8
          obtain ⟨A8, c8, rfl, B8⟩ := o8.by (by
            rw [← hl8]
            intro x hx
            simp only [List.mem_append] at hx
            rcases hx with (hx | hx) | hx
            · exact HE.out.2.2.2.1 x hx
            · simp at hx; omega
            · simp at hx; omega)
          have hcv := conv_by B8
          obtain ⟨Z, hZ⟩ : ∃ S : ByteArray, ⟨(u8s l8).toArray⟩ = S := ⟨_, rfl⟩
          rw [hZ] at hcv
          generalize l8.length = n8 at *
          have b8 : Below W1.heap.size W1 w8 := H7.out.2.2.trans (((below_new w6 (.cells #[.int .u8 62] 5)).mono H7.out.2.2.size).trans hb8)
          have HF := Lib.hid (And.intro (HH.out.2.1.trans (b8.mono (by have := HZ.out; omega))) (And.intro hZ hl8))
          clear b8 hb8 o8 B8 hZ hl8
          go_wp2_with fail
          go_ret
          refine ⟨?_, HF.out.1⟩
          rw [HE.out.1, ← HF.out.2.1, ← HF.out.2.2, ← HE.out.2.2.2.2.2]
          rfl
        | false =>
          have B7 := by_lit1 wr 62 (by decide)
          have o7 := HE.out.2.1.below (below_new wr (.cells #[.int .u8 62] 5))
          have H7 := Lib.hid (And.intro B7 (And.intro o7 HE.out.2.2.1))
          clear B7 o7
          go_wp2_with (first
            | (at_builtin
               refine wpList_appBs rfl (.tmp 55) (.tmp 56) rfl W1.heap.size _ _ [62] rfl H7.out.2.1 (some ⟨wr.heap.size, 0, none⟩) 1 1 rfl rfl H7.out.1 (by have := HE.out.2.2.2.2.1; simp; omega) (by have := H7.out.2.2.size; rw [World.size_alloc]; omega) ?_)
            | fail)
          intro v8 w8 o8 hb8
          obtain ⟨l8, hl8⟩ : ∃ l, l4 ++ [62] = l := ⟨_, rfl⟩
          have o8 : OwnB w8 W1.heap.size l8 v8 := by
            rw [← hl8]
            simpa using o8
          obtain ⟨A8, c8, rfl, B8⟩ := o8.by (by
            rw [← hl8]
            intro x hx
            simp only [List.mem_append] at hx
            rcases hx with hx | hx
            · exact HE.out.2.2.2.1 x hx
            · simp at hx; omega)
          have hcv := conv_by B8
          obtain ⟨Z, hZ⟩ : ∃ S : ByteArray, ⟨(u8s l8).toArray⟩ = S := ⟨_, rfl⟩
          rw [hZ] at hcv
          generalize l8.length = n8 at *
          have b8 : Below W1.heap.size W1 w8 := H7.out.2.2.trans (((below_new wr (.cells #[.int .u8 62] 5)).mono H7.out.2.2.size).trans hb8)
          have HF := Lib.hid (And.intro (HH.out.2.1.trans (b8.mono (by have := HZ.out; omega))) (And.intro hZ hl8))
          clear b8 hb8 o8 B8 hZ hl8
          go_wp2_with fail
          go_ret
          refine ⟨?_, HF.out.1⟩
          rw [HE.out.1, ← HF.out.2.1, ← HF.out.2.2, ← HE.out.2.2.2.2.2]
          unfold wrL
          rw [if_neg (by decide), List.append_nil]
          rfl
      have i1 : (k : Int) < (N : Int) := by omega
      obtain ⟨a, hx⟩ := at_lt (l := L) (k := k) (by rw [HH.out.2.2.2.2.1]; exact hlt)
      have ha := HH.out.2.2.2.2.2.2.2.1 a (List.mem_of_getElem? hx)
      have hsn := wrA_snoc hx
      have hle : (wrA (L.take k)).length + (a.1.length + a.2.length + 4) ≤ (wrA L).length := by
        have := wrA_take_le L (k + 1)
        rw [hsn, List.length_append, wrA1_len] at this
        exact this
      have hll := HH.out.2.2.2.2.2.2.2.2.1
      have hl1 : a.1.length ≤ 100000 := by omega
      have hl2 : a.2.length ≤ 100000 := by omega
      obtain ⟨b, o, rfl, hbl, f0, f1⟩ := (HH.out.2.2.2.1.on hb).r k a hx
      rw [← Nat.add_assoc] at f1
      obtain ⟨C1, C2, C3, g1, g2, g3, g4, z1, z2, z3⟩ := cat4 a
      have zn : (⟨(u8s a.1).toArray⟩ : ByteArray).size = a.1.length := size_str _
      have zv : (⟨(u8s a.2).toArray⟩ : ByteArray).size = a.2.length := size_str _
      have K1 := fun W => mayWrite_any a.1 ha.1 (by omega) W
      unfold strV at K1
      have K2 : ∀ W, Calls Try.prog 27 #[.string ⟨(u8s a.2).toArray⟩, .string ⟨#[34]⟩] W fun e w' => e = .returned (.bool (a.2.contains 34)) ∧ w' = W := fun W => by
        have h := Try.strings_Contains_one ⟨(u8s a.2).toArray⟩ 34 W
        rw [show decide (0 ≤ Lib.indexByte (⟨(u8s a.2).toArray⟩ : ByteArray).data.toList 34) = a.2.contains 34 from (indexByte_mem 34 (by omega) a.2 ha.2).1] at h
        exact h
      obtain ⟨SA, hSA⟩ : ∃ S : ByteArray, ⟨(u8s a.1).toArray⟩ = S := ⟨_, rfl⟩
      obtain ⟨SV, hSV⟩ : ∃ S : ByteArray, ⟨(u8s a.2).toArray⟩ = S := ⟨_, rfl⟩
      obtain ⟨SC, hSC⟩ : ∃ S : ByteArray, ⟨(u8s (wrA1 a)).toArray⟩ = S := ⟨_, rfl⟩
      rw [hSA] at f0 g1 zn K1
      rw [hSV] at f1 g3 zv K2
      rw [hSC] at g4
      obtain ⟨W4, hW4⟩ : ∃ W, wr.alloc (.cells #[.string SA, .string SV] 40) = W := ⟨_, rfl⟩
      have b4 : Below wr.heap.size wr W4 := by rw [← hW4]; exact below_new _ _
      have y : Cells W4 wr.heap.size 40 #[.string SA, .string SV] := by rw [← hW4]; exact cells_new _ _ _
      have y0 := y.cell 0
      have y1 := y.cell 1
      simp at y0 y1
      have HK := Lib.hid (And.intro (ho.below b4) (And.intro (hb.trans (b4.mono hb.size)) (And.intro y (And.intro hok (And.intro hx (And.intro K2 (And.intro hsn (And.intro hSC (And.intro ha hle)))))))))
      have K1 := Lib.hid (K1 W4)
      clear ho hb hok hx ha hsn hle hSA hSV hSC y b4 hbl K2 hll
      go_wp2_with fail
      refine K1.out.mono ?_
      rintro r w5 ⟨rfl, hb5⟩
      have b5 : Below W1.heap.size W1 w5 := HK.out.2.1.trans (hb5.mono HK.out.2.1.size)
      have bw5 : Below w.heap.size w w5 := HH.out.2.1.trans (b5.mono (by have := HZ.out; omega))
      have y5 := HK.out.2.2.1.on hb5
      have y0 := y5.cell 0
      have y1 := y5.cell 1
      simp at y0 y1
      cases hp : plnB a.1 with
      | false =>
        have e := wrT_attr (kd := (0 : Int)) (nm := nm) (sg := sg) HK.out.2.2.2.2.1 (by unfold okA; rw [hp]; rfl)
        rw [HH.out.2.2.2.2.2.1] at e
        have HE := Lib.hid (And.intro e bw5)
        clear e bw5 b5 hb5 hp hW4 f0 f1 y5
        go_wp2_with fail
        go_ret
        exact ⟨by rw [HE.out.1]; rfl, HE.out.2⟩
      | true =>
        have H5 := Lib.hid (And.intro hp (And.intro b5 (And.intro bw5 (HK.out.1.below hb5))))
        clear hp b5 bw5 hb5 hW4 f0 f1 y5
        go_wp2_with fail
        refine (HK.out.2.2.2.2.2.1 _).mono ?_
        rintro r w5' ⟨rfl, e5⟩
        obtain rfl := e5.symm
        clear e5
        cases hc : a.2.contains 34 with
        | true =>
          have e := wrT_attr (kd := (0 : Int)) (nm := nm) (sg := sg) HK.out.2.2.2.2.1 (by unfold okA; rw [hc]; simp)
          rw [HH.out.2.2.2.2.2.1] at e
          have HE := Lib.hid e
          clear e hc
          go_wp2_with fail
          go_ret
          exact ⟨by rw [HE.out]; rfl, H5.out.2.2.1⟩
        | false =>
          have hk1 := okA_snoc HK.out.2.2.2.2.1 (by unfold okA; rw [H5.out.1, hc]; rfl) HK.out.2.2.2.1
          have HE := Lib.hid hk1
          clear hk1 hc
          go_wp2_with (first
            | (at_builtin
               refine wpList_appStr rfl (.tmp 40) (.tmp 48) rfl W1.heap.size _ _ (wrA1 a) SC HK.out.2.2.2.2.2.2.2.1 rfl H5.out.2.2.2 rfl (wrA1_256 HK.out.2.2.2.2.2.2.2.2.1) (by have := HH.out.2.2.2.2.2.2.2.2.1; have := HK.out.2.2.2.2.2.2.2.2.2; rw [wrA1_len]; simp; omega) H5.out.2.1.size ?_)
            | fail)
          intro v6 w6 o6 hb6
          have o6 : OwnB w6 W1.heap.size ([] ++ ([60] : List Nat) ++ nm ++ wrA (L.take (k + 1))) v6 := by
            rw [HK.out.2.2.2.2.2.2.1]
            simpa using o6
          have H6 := Lib.hid (And.intro o6 (H5.out.2.1.trans hb6))
          clear o6 hb6 y0 y1
          go_wp2_with fail
          go_roundw
          case rel => exact ⟨k + 1, v6, rfl, by go_num, by omega, H6.out.1, H6.out.2, HE.out⟩
          case measure => simp [RowKit.intOf]; omega
end Go.Proofs.Ytplnkmojkdbbnaa
