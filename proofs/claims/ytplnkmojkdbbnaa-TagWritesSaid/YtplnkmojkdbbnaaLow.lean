/-
  []byte(s): the row that it makes. Contract: tag.Lower.
-/
import Derived.Test.YtplnkmojkdbbnaaClo
import Derived.Test.YtplnkmojkdbbnaaCnv
namespace Go.Proofs.Ytplnkmojkdbbnaa
open Go.RowKit Go.Shelf Go.Lib Go.Maps

/-- The row behind []byte(s). -/
structure ByR (w : World) (g : Nat) (l : List Nat) (cap : Nat) : Prop where
  row : ∃ cur k, w.heap[g]? = some (.cells cur 5 (k, k + 1)) ∧ cur.size = cap ∧ cap ≤ k ∧ ∀ (i x : Nat), l[i]? = some x → cur[i]? = some (.int .u8 (x : Int))
  le : l.length ≤ cap
  mx : cap ≤ maxLen
  b : ∀ x ∈ l, x < 256
theorem ByR.lt {w : World} {g : Nat} {l : List Nat} {cap : Nat} (h : ByR w g l cap) : g < w.heap.size := by
  obtain ⟨cur, k, h1, _⟩ := h.row
  exact (Array.getElem?_eq_some_iff.1 h1).1
theorem ByR.on {w w' : World} {g : Nat} {l : List Nat} {cap : Nat} (h : ByR w g l cap) (hb : Below w.heap.size w w') : ByR w' g l cap := by
  have hlt := h.lt
  obtain ⟨cur, k, h1, h2⟩ := h.row
  exact ⟨⟨cur, k, (hb.block g hlt).trans h1, h2⟩, h.le, h.mx, h.b⟩
theorem ByR.by {w : World} {g : Nat} {l : List Nat} {cap : Nat} (h : ByR w g l cap) : BY w w.heap.size l (some ⟨g, 0, none⟩) cap := by
  have hlt := h.lt
  obtain ⟨cur, k, h1, _, _, h2⟩ := h.row
  refine ⟨h.le, h.mx, fun e => (by cases e), h.b, fun _ => ⟨g, 0, rfl, hlt, fun i x hx => ?_⟩⟩
  rw [Nat.zero_add]
  unfold World.cell?
  rw [h1]
  simp only []
  exact h2 i x hx
theorem ByR.froz {w : World} {g : Nat} {l : List Nat} {cap i : Nat} (h : ByR w g l cap) (hi : i < l.length) : w.frozen? ⟨g, i, none⟩ = false := by
  obtain ⟨cur, k, h1, h2, h3, _⟩ := h.row
  have := h.le
  simp [World.frozen?, h1]
  omega
theorem ByR.set {w : World} {g : Nat} {l : List Nat} {cap : Nat} (h : ByR w g l cap) (i y : Nat) (hy : y < 256) : ByR (w.setCell ⟨g, i, none⟩ (.int .u8 (y : Int))) g (l.set i y) cap := by
  obtain ⟨cur, k, h1, h2, h3, h4⟩ := h.row
  refine ⟨⟨cur.setIfInBounds i (.int .u8 (y : Int)), k, ?_, by simpa using h2, h3, ?_⟩, by simpa using h.le, h.mx, fun x hx => ?_⟩
  · unfold World.setCell
    simp only [Array.getElem?_modify, if_true]
    rw [h1]
    rfl
  · intro j x hx
    rw [List.getElem?_set] at hx
    by_cases e : i = j
    · subst e
      rw [if_pos rfl] at hx
      split at hx
      · rename_i hl
        have := h.le
        simp at hx
        subst hx
        rw [Array.getElem?_setIfInBounds_self_of_lt (by omega)]
      · cases hx
    · rw [if_neg e] at hx
      rw [Array.getElem?_setIfInBounds_ne e]
      exact h4 j x hx
  · rcases List.mem_or_eq_of_mem_set hx with h5 | h5
    · exact h.b x h5
    · omega
theorem strB_size' (l : List UInt8) : (⟨l.toArray⟩ : ByteArray).size = l.length := by simp [ByteArray.size]
theorem conv_str (w : World) (l : List Nat) (h256 : ∀ x ∈ l, x < 256) (hl : l.length ≤ 1000000) : ∃ cap W4, (convert 9 22 (strV l)).run Try.prog w = .ok (.slice (some ⟨w.heap.size, 0, none⟩) l.length cap) W4 ∧ ByR W4 w.heap.size l cap ∧ Below w.heap.size w W4 := by
  have h := run_bytes_of_string (P := Try.prog) w 9 22 5 ⟨(u8s l).toArray⟩ Try.underlying9 Try.underlying22 Try.underlying5
  rw [strB_size', u8s_len] at h
  have h1 := grownCap_ge w l.length 0 5
  have h2 := grownCap_le_maxLen w l.length 0 5 (by unfold maxLen; omega)
  generalize grownCap w l.length 0 5 = cap at *
  have hsz : (bytesRow ⟨(u8s l).toArray⟩ cap).size = cap := by
    unfold bytesRow
    simp [ByteArray.size, u8s_len]
    omega
  refine ⟨cap, _, h, ⟨⟨_, _, heap_alloc_new w.drew _, hsz, by rw [hsz]; exact Nat.le_refl _, fun i x hx => ?_⟩, h1, h2, h256⟩, (Below.refl _ _).drew.alloc (Nat.le_refl _) _⟩
  have hi : i < (⟨(u8s l).toArray⟩ : ByteArray).data.size := by
    have := (List.getElem?_eq_some_iff.1 hx).1
    simpa [u8s_len] using this
  rw [bytesRow_at _ _ i hi]
  have hx2 : (u8s l)[i]? = some (UInt8.ofNat x) := by unfold u8s; rw [List.getElem?_map, hx]; rfl
  have hi2 : i < (u8s l).length := by simpa using hi
  rw [List.getElem?_eq_getElem hi2] at hx2
  simp at hx2
  have h256x := h256 x (List.mem_of_getElem? hx)
  simp [hx2, Nat.mod_eq_of_lt h256x]
/-- So many letters are small. -/
def mixL (k : Nat) (l : List Nat) : List Nat := lowL (l.take k) ++ l.drop k
theorem mixL_zero (l : List Nat) : mixL 0 l = l := by simp [mixL, lowL]
theorem mixL_all (l : List Nat) : mixL l.length l = lowL l := by simp [mixL]
theorem mixL_len (k : Nat) (l : List Nat) : (mixL k l).length = l.length := by simp [mixL, lowL]; omega
theorem mixL_at {k x : Nat} {l : List Nat} (h : l[k]? = some x) : (mixL k l)[k]? = some x := by
  have hk := (List.getElem?_eq_some_iff.1 h).1
  unfold mixL
  have e : (lowL (l.take k)).length = k := by simp [lowL]; omega
  rw [List.getElem?_append_right (by omega), e, Nat.sub_self, List.getElem?_drop]
  exact h
theorem mixL_next {k x : Nat} {l : List Nat} (h : l[k]? = some x) : mixL (k + 1) l = (mixL k l).set k (lowN x) := by
  have hk := (List.getElem?_eq_some_iff.1 h).1
  unfold mixL
  have e : (lowL (l.take k)).length = k := by simp [lowL]; omega
  rw [List.set_append_right _ _ (by omega), e, Nat.sub_self, drop_at h, List.set_cons_zero, List.take_add_one, h]
  simp [lowL]
theorem mixL_same {k x : Nat} {l : List Nat} (h : l[k]? = some x) (hx : lowN x = x) : mixL (k + 1) l = mixL k l := by
  rw [mixL_next h, hx]
  obtain ⟨h1, e⟩ := List.getElem?_eq_some_iff.1 (mixL_at h)
  have := List.set_getElem_self h1
  rw [e] at this
  exact this
theorem lowN_lt {x : Nat} (h : x < 256) : lowN x < 256 := by unfold lowN; split <;> omega
theorem lowL_lt {l : List Nat} (h : ∀ x ∈ l, x < 256) : ∀ x ∈ lowL l, x < 256 := by
  intro x hx
  obtain ⟨y, hy, rfl⟩ := List.mem_map.1 hx
  exact lowN_lt (h y hy)
set_option maxHeartbeats 4000000 in
set_option maxRecDepth 100000 in
theorem lower_any (l : List Nat) (h256 : ∀ x ∈ l, x < 256) (hl : l.length ≤ 1000000) (w : World) :
    Calls Try.prog 15 #[strV l] w fun e w' => e = .returned (strV (lowL l)) ∧ Below w.heap.size w w' := by
  obtain ⟨cap, W1, hcv, hr, hb1⟩ := conv_str w l h256 hl
  rw [← mixL_zero l] at hr
  unfold strV at hcv ⊢
  obtain ⟨N, hN⟩ : ∃ N, l.length = N := ⟨_, rfl⟩
  rw [hN] at hcv hl
  have hs := hb1.size
  obtain ⟨G, hG⟩ : ∃ G, w.heap.size = G := ⟨_, rfl⟩
  rw [hG] at hcv hr
  have HH := Lib.hid (And.intro hr (And.intro hb1 (And.intro hN (And.intro h256 hG))))
  clear hr hb1 hN h256 hG
  go_enter Try.func15, Try.ntmps15
  go_wp2_with fail
  go_loopw [4, 5, 10] (fun _ _ i wr => ∃ k : Nat, i = .int .i64 (k : Int) ∧ k ≤ N ∧ ByR wr G (mixL k l) cap ∧ Below w.heap.size w wr) (fun _ _ i _ => N - (RowKit.intOf i).toNat)
  case atStart => exact ⟨0, by go_num, by omega, HH.out.1, HH.out.2.1⟩
  case round =>
    obtain ⟨k, rfl, hk, hR, hb⟩ := hrel
    by_cases hlt : k < N
    case neg =>
      obtain rfl : k = N := by omega
      have hmx : mixL k l = lowL l := by rw [← HH.out.2.2.1]; exact mixL_all l
      rw [hmx] at hR
      have hcv2 := conv_by hR.by
      rw [show (lowL l).length = k by rw [← HH.out.2.2.1]; simp [lowL]] at hcv2
      have HB := Lib.hid hb
      clear hR hmx hb
      go_wp2_with fail
      go_ret
      exact ⟨rfl, HB.out⟩
    have i1 : (k : Int) < (N : Int) := by omega
    obtain ⟨x, hx⟩ := at_lt (l := l) (k := k) (by rw [HH.out.2.2.1]; exact hlt)
    have hml : k < (mixL k l).length := by rw [mixL_len, HH.out.2.2.1]; exact hlt
    have hf := hR.froz hml
    obtain ⟨b', o', e', _, d0⟩ := hR.by.at (mixL_at hx)
    obtain ⟨rfl, rfl⟩ : G = b' ∧ 0 = o' := by simpa using e'
    have hx256 := HH.out.2.2.2.1 x (List.mem_of_getElem? hx)
    have hnext := mixL_next hx
    have hsame := mixL_same hx
    rw [Nat.zero_add] at d0
    have hset := hR.set k (lowN x) (lowN_lt hx256)
    rw [← hnext] at hset
    have hgb : Below w.heap.size w (wr.setCell ⟨G, k, none⟩ (.int .u8 ((lowN x : Nat) : Int))) := by
      refine hb.setCell (p := ⟨G, k, none⟩) ?_ _
      rw [HH.out.2.2.2.2]; exact Nat.le_refl _
    have hgl := hR.lt
    by_cases c1 : 65 ≤ x
    · by_cases c2 : x ≤ 90
      · have hlow : ((lowN x : Nat) : Int) = (x : Int) - 65 + 97 := by unfold lowN; rw [if_pos ⟨c1, c2⟩]; omega
        rw [hlow] at hset hgb
        have d1 : decide (65 ≤ (x : Int)) = true := by simp; omega
        have d2 : decide ((x : Int) ≤ 90) = true := by simp; omega
        have e1 : IntKind.u8.wrap ((x : Int) - 65) = (x : Int) - 65 := IntWalk.u8_in _ (by omega)
        have e2 : IntKind.u8.wrap ((x : Int) - 65 + 97) = (x : Int) - 65 + 97 := IntWalk.u8_in _ (by omega)
        have HE := Lib.hid (And.intro hset hgb)
        clear hset hgb hlow hsame hnext hb hR hml e' c1 c2 hx256 hx
        generalize (x : Int) = X at *
        go_wp2_with fail
        go_roundw
        case rel => exact ⟨k + 1, by go_num, by omega, HE.out.1, HE.out.2⟩
        case measure => simp [RowKit.intOf]; omega
      · have d1 : decide (65 ≤ (x : Int)) = true := by simp; omega
        have d2 : decide ((x : Int) ≤ 90) = false := by simp; omega
        have hs := hsame (by unfold lowN; rw [if_neg (by omega)])
        have HE := Lib.hid (And.intro hs (And.intro hR hb))
        clear hset hgb hsame hnext hb hR hml e' c1 c2 hx256 hx hs
        generalize (x : Int) = X at *
        go_wp2_with fail
        go_roundw
        case rel => exact ⟨k + 1, by go_num, by omega, by rw [HE.out.1]; exact HE.out.2.1, HE.out.2.2⟩
        case measure => simp [RowKit.intOf]; omega
    · have d1 : decide (65 ≤ (x : Int)) = false := by simp; omega
      have hs := hsame (by unfold lowN; rw [if_neg (by omega)])
      have HE := Lib.hid (And.intro hs (And.intro hR hb))
      clear hset hgb hsame hnext hb hR hml e' c1 hx256 hx hs
      generalize (x : Int) = X at *
      go_wp2_with fail
      go_roundw
      case rel => exact ⟨k + 1, by go_num, by omega, by rw [HE.out.1]; exact HE.out.2.1, HE.out.2.2⟩
      case measure => simp [RowKit.intOf]; omega
end Go.Proofs.Ytplnkmojkdbbnaa
