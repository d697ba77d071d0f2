/-
  Mathematics of references: each style against what the document says.
-/
import Derived.Test.YtpimadgcojgjaaaDoorMtb
namespace Go.Proofs.YtpimadgcojgjaaaDoor
open Go.RowKit Go.Shelf Go.Lib Go.Maps Go.Great

theorem isMy_59 (l : List Nat) : isMy l 59 = isNm (u8s l) := by
  funext x
  rw [isMy, if_pos rfl]
  rfl
theorem style_n {ys : List Nat} (h256 : ∀ x ∈ ys, x < 256) {m : Nat} (h : followR [38] mayNm ys = (m, true)) : Good ys m ∧ nmR (u8s ((ys.take (m - 1)).drop 1)) = innZ (u8s (inner ys m)) := by
  have hm := follow_true h
  simp only [List.length_singleton] at hm
  rw [followR] at h
  split at h
  · obtain ⟨h1, h2, _⟩ := fol_last (may := mayNm) (xs := ys) (h := 1) (m := m) _ 1 rfl (Nat.le_refl _) h
    rw [mayNm, isMy_59] at h2
    obtain ⟨x, hx⟩ := Option.isSome_iff_exists.1 h2
    have hxm := List.mem_of_find?_eq_some hx
    have he : x.1 = u8s (inner ys m) := by
      have hb : isNm (u8s (inner ys m)) x = true := List.find?_some hx
      exact eq_of_beq hb
    have hnx := nm_inn x hxm
    have hZ : innZ (u8s (inner ys m)) = x.2 := by rw [innZ, show nmE.find? (isNm (u8s (inner ys m))) = some x from hx]
    have hlen : (inner ys m).length = m - 2 := inner_len hm.2
    have h2l := hnx.2.1
    rw [he, u8s_lenE, hlen] at h2l
    refine ⟨⟨by omega, hm.2, h1, by rw [hZ]; exact hnx.2.2.2.1⟩, ?_⟩
    rw [hZ, nmR, show nmE.find? (isNm (u8s ((ys.take (m - 1)).drop 1))) = some x from hx]
    rfl
  · simp at h
theorem style_d {ys : List Nat} (h256 : ∀ x ∈ ys, x < 256) {m : Nat} (h : followR [38, 35] (mayD 10 7) ys = (m, true)) : Good ys m ∧ mnR (nbV 10 ((ys.take (m - 1)).drop 2) 0) = innZ (u8s (inner ys m)) := by
  have hm := follow_true h
  obtain ⟨a1, a2, a3⟩ := follow_num h
  simp only [List.length_cons, List.length_nil, Nat.zero_add, Nat.reduceAdd] at hm a1 a2 a3
  rw [followR] at h
  split at h
  · rename_i hp
    obtain ⟨h1, _, _⟩ := fol_last (may := mayD 10 7) (xs := ys) (h := 2) (m := m) _ 2 rfl (Nat.le_refl _) h
    obtain ⟨t, rfl⟩ := List.isPrefixOf_iff_prefix.1 hp
    obtain ⟨q, rfl⟩ : ∃ q, m = q + 3 := ⟨m - 3, by omega⟩
    have hi : inner (nats [38, 35] ++ t) (q + 3) = 35 :: t.take q := by simp [inner, nats]
    have hd : (List.take (q + 3 - 1) (nats [38, 35] ++ t)).drop 2 = t.take q := by simp [nats]
    have hn : nats (u8s (inner (nats [38, 35] ++ t) (q + 3))) = 35 :: t.take q := by rw [nats_u8s _ (inner_lt h256 _), hi]
    rw [hd] at a1 a2 a3
    have hz := innZ_dec hn a2 a3 a1
    refine ⟨⟨by omega, hm.2, h1, by rw [hz]; exact mnR_pos _⟩, ?_⟩
    rw [hz]
    exact congrArg (fun u => mnR (nbV 10 u 0)) hd
  · simp at h
theorem style_h {X : UInt8} (hX : X.toNat = 120 ∨ X.toNat = 88) {ys : List Nat} (h256 : ∀ x ∈ ys, x < 256) {m : Nat} (h : followR [38, 35, X] (mayD 16 6) ys = (m, true)) : Good ys m ∧ mnR (nbV 16 ((ys.take (m - 1)).drop 3) 0) = innZ (u8s (inner ys m)) := by
  have hm := follow_true h
  obtain ⟨a1, a2, a3⟩ := follow_num h
  simp only [List.length_cons, List.length_nil, Nat.zero_add, Nat.reduceAdd] at hm a1 a2 a3
  rw [followR] at h
  split at h
  · rename_i hp
    obtain ⟨h1, _, _⟩ := fol_last (may := mayD 16 6) (xs := ys) (h := 3) (m := m) _ 3 rfl (Nat.le_refl _) h
    obtain ⟨t, rfl⟩ := List.isPrefixOf_iff_prefix.1 hp
    obtain ⟨q, rfl⟩ : ∃ q, m = q + 4 := ⟨m - 4, by omega⟩
    have hi : inner (nats [38, 35, X] ++ t) (q + 4) = 35 :: X.toNat :: t.take q := by simp [inner, nats]
    have hd : (List.take (q + 4 - 1) (nats [38, 35, X] ++ t)).drop 3 = t.take q := by simp [nats]
    have hn : nats (u8s (inner (nats [38, 35, X] ++ t) (q + 4))) = 35 :: X.toNat :: t.take q := by rw [nats_u8s _ (inner_lt h256 _), hi]
    rw [hd] at a1 a2 a3
    have hz := innZ_hex hn hX a2 a3 a1
    refine ⟨⟨by omega, hm.2, h1, by rw [hz]; exact mnR_pos _⟩, ?_⟩
    rw [hz, hd]
  · simp at h
theorem styles_good {ys : List Nat} (h256 : ∀ x ∈ ys, x < 256) : ∀ s ∈ styL, ∀ m, followR s.beg s.may ys = (m, true) → Good ys m ∧ s.means ((ys.take (m - 1)).drop s.beg.length) = innZ (u8s (inner ys m)) := by
  intro s hs m h
  simp only [styL, List.mem_cons, List.not_mem_nil, or_false] at hs
  rcases hs with rfl | rfl | rfl | rfl
  · exact style_n h256 h
  · exact style_d h256 h
  · exact style_h (X := 120) (Or.inl rfl) h256 h
  · exact style_h (X := 88) (Or.inr rfl) h256 h
theorem good_pref {ys : List Nat} {n : Nat} (h0 : ys.getD 0 0 = 38) (h : Good ys n) : ys = 38 :: (inner ys n ++ ys.drop (n - 1)) := by
  cases ys with
  | nil => have := h.h3; have := h.hn; simp at this; omega
  | cons y t =>
    obtain rfl : y = 38 := by simpa using h0
    have h3 := h.h3
    obtain ⟨q, rfl⟩ : ∃ q, n = q + 2 := ⟨n - 2, by omega⟩
    simp [inner]
theorem good_style {ys : List Nat} (h256 : ∀ x ∈ ys, x < 256) {n : Nat} (h0 : ys.getD 0 0 = 38) (h : Good ys n) : ∃ s ∈ styL, ∃ m, followR s.beg s.may ys = (m, true) := by
  have hp := good_pref h0 h
  have hN : nats (u8s (inner ys n)) = inner ys n := nats_u8s _ (inner_lt h256 n)
  have hn3 := h.h3
  have no := fun j c (h1 : 1 ≤ j) (h2 : j < n - 1) (hc : ys[j]? = some c) => show c ≠ 59 from fun e => good_no h256 h h1 h2 (by rw [hc, e])
  have take1 : ∀ j, 1 ≤ j → j < n - 1 → (ys.take j).drop 1 = (inner ys n).take (j - 1) := fun j h1 h2 => by
    rw [inner, List.take_drop, List.take_take, show min (1 + (j - 1)) (n - 1) = j by omega]
  rcases innZ_ok h.hi with ⟨x, hx, hf, he⟩ | ⟨X, ds, hl, hX, d0, dm, dd⟩ | ⟨ds, hl, d0, dm, dd⟩
  · refine ⟨stN, by simp [styL], n - 1 + 1, ?_⟩
    show followR [38] mayNm ys = _
    have hpre : (nats [38]).isPrefixOf ys = true := by rw [hp]; rfl
    rw [followR, if_pos hpre]
    refine fol_whole h.he ?_ ?_ _ 1 rfl (Nat.le_refl _) (by omega)
    · show (nmE.find? (isMy (inner ys n) 59)).isSome = true
      rw [isMy_59, hf]
      rfl
    · intro j c h1 h2 hc
      have hne := no j c h1 h2 hc
      refine ⟨hne, ?_⟩
      show (nmE.find? (isMy ((ys.take j).drop 1) c)).isSome = true
      rw [take1 j h1 h2, List.find?_isSome]
      refine ⟨x, hx, ?_⟩
      have hil := inner_len h.hn
      have hxl : x.1.length = n - 2 := by rw [he, u8s_lenE, hil]
      have htl : ((inner ys n).take (j - 1)).length = j - 1 := by rw [List.length_take]; omega
      rw [isMy, if_neg hne, htl, hxl]
      have e1 : x.1.take (j - 1) = u8s ((inner ys n).take (j - 1)) := by rw [he]; simp [u8s, List.map_take]
      have e2 : (nats x.1).getD (j - 1) 0 = c := by rw [he, hN, List.getD_eq_getElem?_getD, inner_at h1 h2 hc]; rfl
      rw [e1, e2]
      have e3 : j - 1 < n - 2 := by omega
      simp [e3]
  · rw [hN] at hl
    have hil := inner_len h.hn
    rw [hl] at hil
    simp at hil
    rw [hl] at hp
    have hXX : (UInt8.ofNat X).toNat = X := by rcases hX with rfl | rfl <;> rfl
    have hdn : (ys.take (n - 1)).drop 3 = ds := by
      have : (ys.take (n - 1)).drop 3 = ((ys.take (n - 1)).drop 1).drop 2 := by rw [List.drop_drop]
      rw [this]
      show (inner ys n).drop 2 = ds
      rw [hl]
      rfl
    have key : followR [38, 35, UInt8.ofNat X] (mayD 16 6) ys = (n - 1 + 1, true) := by
      have hpre : (nats [38, 35, UInt8.ofNat X]).isPrefixOf ys = true := by
        rw [hp]
        simp only [nats, List.map_cons, List.map_nil, hXX]
        simp
      rw [followR, if_pos hpre]
      refine fol_whole h.he ?_ ?_ _ 3 rfl (Nat.le_refl _) (by have := List.length_pos_iff.2 d0; omega)
      · show mayD 16 6 ((ys.take (n - 1)).drop 3) 59 = true
        rw [hdn, mayD, if_pos rfl]
        simpa using List.length_pos_iff.2 d0
      · intro j c h1 h2 hc
        have h1 : 3 ≤ j := h1
        have hne := no j c (by omega) h2 hc
        refine ⟨hne, ?_⟩
        have hcd : c ∈ ds := by
          have := inner_at (n := n) (by omega) h2 hc
          rw [hl, show j - 1 = (j - 3) + 2 by omega] at this
          exact List.mem_of_getElem? (by simpa using this)
        rw [mayD, if_neg hne, dd c hcd]
        have : ((ys.take j).drop 3).length = j - 3 := by rw [List.length_drop, List.length_take]; have := h.hn; omega
        show (decide (((ys.take j).drop 3).length < 6) && true) = true
        rw [this]
        simp
        omega
    rcases hX with rfl | rfl
    · exact ⟨stD [38, 35, 120] 16 6, by simp [styL], _, key⟩
    · exact ⟨stD [38, 35, 88] 16 6, by simp [styL], _, key⟩
  · rw [hN] at hl
    have hil := inner_len h.hn
    rw [hl] at hil
    simp at hil
    rw [hl] at hp
    have hdn : (ys.take (n - 1)).drop 2 = ds := by
      have : (ys.take (n - 1)).drop 2 = ((ys.take (n - 1)).drop 1).drop 1 := by rw [List.drop_drop]
      rw [this]
      show (inner ys n).drop 1 = ds
      rw [hl]
      rfl
    refine ⟨stD [38, 35] 10 7, by simp [styL], n - 1 + 1, ?_⟩
    show followR [38, 35] (mayD 10 7) ys = _
    have hpre : (nats [38, 35]).isPrefixOf ys = true := by
      rw [hp]
      simp [nats]
    rw [followR, if_pos hpre]
    refine fol_whole h.he ?_ ?_ _ 2 rfl (Nat.le_refl _) (by have := List.length_pos_iff.2 d0; omega)
    · show mayD 10 7 ((ys.take (n - 1)).drop 2) 59 = true
      rw [hdn, mayD, if_pos rfl]
      simpa using List.length_pos_iff.2 d0
    · intro j c h1 h2 hc
      have h1 : 2 ≤ j := h1
      have hne := no j c (by omega) h2 hc
      refine ⟨hne, ?_⟩
      have hcd : c ∈ ds := by
        have := inner_at (n := n) (by omega) h2 hc
        rw [hl, show j - 1 = (j - 2) + 1 by omega] at this
        exact List.mem_of_getElem? (by simpa using this)
      rw [mayD, if_neg hne, dd c hcd]
      have : ((ys.take j).drop 2).length = j - 2 := by rw [List.length_drop, List.length_take]; have := h.hn; omega
      show (decide (((ys.take j).drop 2).length < 7) && true) = true
      rw [this]
      simp
      omega
theorem read_same (xs : List Nat) (h256 : ∀ x ∈ xs, x < 256) (k : Nat) (hk : k < xs.length) : readE xs (k : Int) = refFrom xs k 8 3 := by
  have hd : ∀ x ∈ xs.drop k, x < 256 := fun x hx => h256 x (List.mem_of_mem_drop hx)
  have hg : xs.getD k 0 = (xs.drop k).getD 0 0 := by simp [List.getD_eq_getElem?_getD]
  rw [readE, if_neg (by omega), Int.toNat_natCast, hg]
  by_cases h0 : (xs.drop k).getD 0 0 = 38
  · rw [if_pos h0]
    by_cases hG : ∃ n, Good (xs.drop k) n
    · obtain ⟨n, hn⟩ := hG
      rw [ref_good hd hk h0 hn]
      refine readS_is styL (fun s hs m hf => ?_) (good_style hd h0 hn)
      obtain ⟨g, e⟩ := styles_good hd s hs m hf
      obtain rfl := good_uni hd g hn
      exact ⟨e, rfl⟩
    · rw [ref_none hd hk (fun n _ h => hG ⟨n, h⟩)]
      exact readS_none styL fun s hs m hf => hG ⟨m, (styles_good hd s hs m hf).1⟩
  · rw [if_neg h0, ref_none hd hk (fun n h _ => h0 h)]
end Go.Proofs.YtpimadgcojgjaaaDoor
