/-
  ExtractTakes' walk.
  ExtractRises' walk.
-/
import Derived.Test.YtojinnnpfjhifaaGreatDoorXqm
namespace Go.Proofs.YtojinnnpfjhifaaGreatDoor.K
open Go.RowKit Go.Shelf Go.Lib Go.Maps
attribute [local irreducible] nmL ofN

theorem AW.on {w2 : World} {gn gx : Nat} {s : ES} {W W' : World} (h : AW w2 gn gx s W) (hb : Below W.heap.size W W') : AW w2 gn gx s W' := ⟨h.ok, Cells.on h.n hb, h.x.on hb, h.z.trans (Fz.of_below hb)⟩
theorem isA_cells {w : World} {B : Nat} {l : List IT} {A : Option Addr} {c : Nat} (h : IsA w B l A c) {i : Nat} {x : IT} (hx : l[i]? = some x) : ∃ b o, A = some ⟨b, o, none⟩ ∧ b < B ∧
    w.cell? ⟨b, o + i * 7, none⟩ = some (.int .i32 x.r) ∧ w.cell? ⟨b, o + i * 7 + 1, none⟩ = some (.int .i64 x.at_) ∧ w.cell? ⟨b, o + i * 7 + 2, none⟩ = some (.int .i64 x.sz) ∧ w.cell? ⟨b, o + i * 7 + 3, none⟩ = some (.bool x.f) ∧
    w.cell? ⟨b, o + i * 7 + 4, none⟩ = some (.bool x.x) ∧ w.cell? ⟨b, o + i * 7 + 5, none⟩ = some (.bool x.n) ∧ w.cell? ⟨b, o + i * 7 + 6, none⟩ = some (.bool x.p) := by
  obtain ⟨b, o, e, h1, h2⟩ := h.r i x hx
  simp only [← Nat.add_assoc] at h2
  exact ⟨b, o, e, h1, h2 0 _ rfl, h2 1 _ rfl, h2 2 _ rfl, h2 3 _ rfl, h2 4 _ rfl, h2 5 _ rfl, h2 6 _ rfl⟩
set_option maxRecDepth 100000 in
set_option maxHeartbeats 8000000 in
theorem takesLaw (xs : List Nat) (A : Option Addr) (cap : Nat) (wv : World) (hb : BY wv wv.heap.size xs A cap) (hM : G.MX wv) (hT : S.Tabs wv) :
    Calls Tryz.prog 4 #[.slice A xs.length cap] wv fun e w' => e = .returned (.bool true) ∧ Below wv.heap.size wv w' := by
  have CW := xawake_any wv hM hT
  by_cases hl : xs.length ≤ 300
  case neg =>
    have hcap := hb.l
    have hmx := hb.m
    obtain ⟨N, hN⟩ : ∃ q, xs.length = q := ⟨_, rfl⟩
    rw [hN] at hcap hl ⊢
    have i0 : (300 : Int) < (N : Int) := by omega
    have HC := Lib.hid CW
    clear CW hb hM hT hN hl
    go_enter Tryz.func4, Tryz.ntmps4
    go_wp2_with fail
    refine HC.out.mono ?_
    rintro e w1 ⟨rfl, b1⟩
    go_wp2_with fail
    go_ret
    exact ⟨rfl, b1⟩
  have HV := Lib.hid (And.intro hb (And.intro hM hT))
  have hcap := hb.l
  have hmx := hb.m
  have CG := fun W (h : Below wv.heap.size wv W) => xall_any xs A cap W (hb.on h) (by omega) (hM.on hM.pos h) (hT.below h (by have := hT.2; omega))
  obtain ⟨L, hL⟩ : ∃ q, eachL xs = q := ⟨_, rfl⟩
  have htl : tiles 0 L xs.length := by rw [← hL]; exact eachL_tiles xs
  have hnm : ∀ t ∈ L, t.name.length ≤ xs.length := by rw [← hL]; exact each_name xs
  simp only [hL] at CG
  obtain ⟨ALL, hALL⟩ : ∃ q, allI (bF xs) es0 L = q := ⟨_, rfl⟩
  simp only [hALL] at CG
  obtain ⟨N, hN⟩ : ∃ q, xs.length = q := ⟨_, rfl⟩
  rw [hN] at htl hnm hl hcap ⊢
  simp only [hN] at CG
  have i0 : ¬ (300 : Int) < (N : Int) := by omega
  have HE := Lib.hid (And.intro hL (And.intro htl (And.intro hnm (And.intro hALL (And.intro hN hl)))))
  have HG := Lib.hid CG
  clear hL htl hnm hALL hN hl hb hM hT CG
  go_enter Tryz.func4, Tryz.ntmps4
  go_wp2_with fail
  refine CW.mono ?_
  rintro e w ⟨rfl, bv⟩
  clear CW
  have hb := HV.out.1.on bv
  have hM := HV.out.2.1.on HV.out.2.1.pos bv
  have hT := HV.out.2.2.below bv (by have := HV.out.2.2.2; omega)
  have h5 := hT.2
  have hl : N ≤ 100000 := by have := HE.out.2.2.2.2.2; omega
  have CT := fun W (h : Below w.heap.size w W) => All_any xs A cap W (hb.on h) (by rw [HE.out.2.2.2.2.1]; exact hl) (hM.on hM.pos h) (hT.below h (by have := hT.2; omega))
  simp only [HE.out.1, HE.out.2.2.2.2.1] at CT
  have CN := xnew_any w
  obtain ⟨gn, hgn⟩ : ∃ q, w.heap.size = q := ⟨_, rfl⟩
  have HC := Lib.hid CT
  have HL := Lib.hid (And.intro HE.out.1 (And.intro HE.out.2.1 (And.intro HE.out.2.2.1 (And.intro HE.out.2.2.2.1 (And.intro HE.out.2.2.2.2.1 (And.intro hl hgn))))))
  have HB := Lib.hid (And.intro hb (And.intro hM (And.intro hT h5)))
  have HBV := Lib.hid bv
  clear CT hl hb hM hT h5 bv
  rw [hgn] at CN
  go_wp2_with fail
  refine CN.mono ?_
  rintro e w1 ⟨rfl, hw1⟩
  clear CN
  have b0 := below_new w (.cells (ctA ⟨0, 0, 0⟩) 81)
  have n0 := cells_new w (ctA ⟨0, 0, 0⟩) 81
  obtain ⟨w0, hw0⟩ : ∃ V, w.alloc (.cells (ctA ⟨0, 0, 0⟩) 81) = V := ⟨_, rfl⟩
  have s0 : w0.heap.size = gn + 1 := by rw [← hw0, ← HL.out.2.2.2.2.2.2]; simp
  rw [hw0] at b0 n0 hw1
  have b1 := below_new w0 (.cells (exA gn false false) 63)
  have x1 := cells_new w0 (exA gn false false) 63
  rw [← hw1] at b1 x1
  have n1 : NeAt w1 gn ⟨0, 0, 0⟩ := by
    have := Cells.on n0 b1
    rw [HL.out.2.2.2.2.2.2] at this
    exact this
  have s1 : w1.heap.size = gn + 2 := by rw [hw1]; simp [s0]
  have bw1 : Below w.heap.size w w1 := b0.trans (b1.mono b0.size)
  rw [s0] at x1
  obtain ⟨gx, hgx⟩ : ∃ q, gn + 1 = q := ⟨_, rfl⟩
  rw [hgx] at x1 ⊢
  have H1 := Lib.hid (And.intro n1 (And.intro x1 (And.intro bw1 (And.intro s1 hgx))))
  clear b0 n0 hw0 s0 hw1 b1 x1 n1 s1 bw1 hgx
  go_wp2_with fail
  refine (HC.out w1 H1.out.2.2.1).mono ?_
  rintro e w2 ⟨v, rfl, ho, b2⟩
  obtain ⟨A2, c2, rfl, hS⟩ := TS.of_own ho
  have hbt : ∀ bb oo, A2 = some ⟨bb, oo, none⟩ → w1.heap.size ≤ bb := fun bb oo e => (own_block_lt ho bb (by rw [e]; rfl)).1
  have hle := hS.le
  have hmx2 := hS.mx
  obtain ⟨n, hn⟩ : ∃ n, L.length = n := ⟨_, rfl⟩
  rw [hn] at hle ⊢
  have H2 := Lib.hid (And.intro hS (And.intro b2 (And.intro hbt hn)))
  have HA2 : AW w2 gn gx es0 w2 := ⟨ok0, Cells.on H1.out.1 b2, Cells.on H1.out.2.1 b2, Fz.refl _ _⟩
  have HA := Lib.hid HA2
  have hgw := HL.out.2.2.2.2.2.2
  have hs1 := H1.out.2.2.2.1
  have hgx1 := H1.out.2.2.2.2
  have b12 : Below gn w w2 := by
    rw [← hgw]
    exact H1.out.2.2.1.trans (b2.mono H1.out.2.2.1.size)
  have hs2 := b2.size
  have HW2 := Lib.hid (And.intro b12 (And.intro (show gn ≤ w2.heap.size by omega) (And.intro (show ∀ q, q < gn → ¬ (q = gn ∨ q = gx) by intro q hq; omega) (And.intro (show gx < w2.heap.size by omega) (show gn < gx ∧ gx < w1.heap.size by omega)))))
  clear hgw hs1 hgx1 b12 hs2
  clear ho b2 hS hbt hn HA2
  go_wp2_with fail
  go_loopw [5, 7] (fun o i wr => ∃ (k : Nat) (pre : List IT) (s : ES) (e : Nat), k ≤ n ∧ i = .int .i64 (k : Int) ∧ OwnIt wr w2.heap.size pre o ∧ AW w2 gn gx s wr ∧ pre ++ allI (bF xs) s (L.drop k) = ALL ∧ tiles e (L.drop k) N ∧ pre.length ≤ e) (fun _ i _ => n - (RowKit.intOf i).toNat)
  case atStart => exact ⟨0, [], es0, 0, Nat.zero_le _, rfl, ownIt_nil _ _, HA.out, by simpa using HL.out.2.2.2.1, by simpa using HL.out.2.1, Nat.zero_le _⟩
  case round =>
    obtain ⟨k, pre, s, e, hk, rfl, ho, ha, hall, htl, hpe⟩ := hrel
    by_cases hkn : k < n
    case pos =>
      have i1 : (k : Int) < (n : Int) := by omega
      obtain ⟨t, ht⟩ : ∃ t, L[k]? = some t := ⟨_, List.getElem?_eq_getElem (by rw [H2.out.2.2.2]; exact hkn)⟩
      rw [drop_cons ht] at hall htl
      have hmem : t ∈ L := List.mem_of_getElem? ht
      have hnmt := HL.out.2.2.1 t hmem
      have hto : t.to ≤ N := tiles_le _ _ _ htl.2.2
      have hfr : t.fr < t.to := by rw [htl.1]; exact htl.2.1
      have hlN := HL.out.2.2.2.2.2.1
      have hxN := HL.out.2.2.2.2.1
      obtain ⟨b, o', rfl, hbw, _⟩ := HB.out.1.r (by rintro rfl; simp at hxN; omega)
      obtain ⟨tb, oo, rfl, htb, d0, d1, d2, d3, d4, d5⟩ := H2.out.1.r k t ht
      have htb1 := H2.out.2.2.1 tb oo rfl
      have hgg := HW2.out.2.2.2.2
      have hne : ¬ (tb = gn ∨ tb = gx) := by omega
      have hcl := cap
      have d0 := fz_cell ha.z d0 hne
      have d1 := fz_cell ha.z d1 hne
      have d2 := fz_cell ha.z d2 hne
      have d3 := fz_cell ha.z d3 hne
      have d4 := fz_cell ha.z d4 hne
      have d5 := fz_cell ha.z d5 hne
      have bwr : Below gn w wr := HW2.out.1.trans (ha.z.below HW2.out.2.1 HW2.out.2.2.1)
      have CK := fun W (h1 : NeAt W gn s.c) (h2 : Cells W gx 63 (exA gn s.f s.x)) (h3 : Below gn w W) => etake_any t s xs (by omega) hfr (by omega) (by omega) gn gx (by omega) (by have := HB.out.2.2.2; have := HL.out.2.2.2.2.2.2; omega) (by have := HB.out.2.2.2; have := HL.out.2.2.2.2.2.2; omega) ha.ok b o' cap w.heap.size W h1 h2
        (HB.out.2.1.on (by have := HB.out.2.2.2; have := HL.out.2.2.2.2.2.2; omega) h3) (HB.out.2.2.1.below h3 (by have := HB.out.2.2.2; have := HL.out.2.2.2.2.2.2; omega)) (HB.out.1.below (by rw [HL.out.2.2.2.2.2.2]; exact h3)) (by have := HL.out.2.2.2.2.2.2; omega) (by have := HL.out.2.2.2.2.2.2; omega)
      have hsl : ∀ W, (Instr.slice 22 (.slice (some ⟨b, o', none⟩) N cap) (some (.int .i64 (t.fr : Int))) (some (.int .i64 (t.to : Int))) none).run Tryz.prog W = .ok (.slice (some ⟨b, o' + t.fr, none⟩) (t.to - t.fr) (cap - t.fr)) W :=
        fun W => slice_win b o' N cap t.fr t.to (by omega) (by omega) (by omega) W
      have hil := items_len s (bF xs) t hfr
      obtain ⟨SN, hSN⟩ : ∃ q : ByteArray, (⟨(G.u8s t.name).toArray⟩ : ByteArray) = q := ⟨_, rfl⟩
      have htv : tokV t = .agg #[.int .i64 (t.kind : Int), .int .i64 (t.fr : Int), .int .i64 (t.to : Int), .string SN, .int .i32 t.r, .bool t.sg] := by rw [← hSN]; rfl
      have hok' := turn_ok s t ha.ok
      obtain ⟨its, hits⟩ : ∃ q, s.items (bF xs) t = q := ⟨_, rfl⟩
      obtain ⟨s', hs'⟩ : ∃ q, s.turn t = q := ⟨_, rfl⟩
      simp only [htv, hits, hs'] at CK
      have hall : pre ++ (its ++ allI (bF xs) s' (L.drop (k + 1))) = ALL := by rw [← hits, ← hs']; exact hall
      rw [hits] at hil
      rw [hs'] at hok'
      rw [hSN] at d3
      have e1 : wr.cell? ⟨tb, oo + k * 6 + 1, none⟩ = some (.int .i64 (t.fr : Int)) := by rw [Nat.add_assoc]; exact d1
      have e2 : wr.cell? ⟨tb, oo + k * 6 + 2, none⟩ = some (.int .i64 (t.to : Int)) := by rw [Nat.add_assoc]; exact d2
      have e3 : wr.cell? ⟨tb, oo + k * 6 + 3, none⟩ = some (.string SN) := by rw [Nat.add_assoc]; exact d3
      have e4 : wr.cell? ⟨tb, oo + k * 6 + 4, none⟩ = some (.int .i32 t.r) := by rw [Nat.add_assoc]; exact d4
      have e5 : wr.cell? ⟨tb, oo + k * 6 + 5, none⟩ = some (.bool t.sg) := by rw [Nat.add_assoc]; exact d5
      have hpe' : pre.length + its.length ≤ t.to := by have := htl.1; omega
      have HR := Lib.hid (And.intro ha (And.intro ho (And.intro hall (And.intro htl.2.2 (And.intro hpe' (And.intro hok' (And.intro bwr (And.intro hto hlN))))))))
      have HK := Lib.hid CK
      have HS := Lib.hid hsl
      have hnN : n ≤ 100000 := by
        have h1 := tiles_len _ _ _ HL.out.2.1
        have h2 := H2.out.2.2.2
        omega
      have ik : (k : Int) ≤ 100000 := by omega
      clear hnN
      have HTB := Lib.hid (And.intro hne htb)
      have j1 : ¬ (t.fr : Int) < 0 := by omega
      have j2 : ¬ (N : Int) < (t.to : Int) := by omega
      have j3 : ¬ (t.to : Int) < (t.fr : Int) := by omega
      clear ha ho hall htl hpe hpe' hok' bwr hto hlN CK hsl ht hmem hnmt hfr hxN hil htv hits hs' hSN hgg hne hcl hbw htb htb1
      go_upto_region 10 with fail
      go_quiet (fail)
      go_upto_region 12 with fail
      have bk : Below wr.heap.size wr (wr.drewN nq) := below_drewN (Below.refl _ _) nq
      obtain ⟨Wk, hWk⟩ : ∃ V, wr.drewN nq = V := ⟨_, rfl⟩
      rw [hWk] at bk ⊢
      have hrs : w2.heap.size ≤ wr.heap.size := HR.out.1.z.size
      have htbr : tb < wr.heap.size := Nat.lt_of_lt_of_le HTB.out.2 hrs
      have m0 : Wk.cell? ⟨tb, oo + k * 6, none⟩ = some (.int .i64 (t.kind : Int)) := (bk.cell (p := ⟨tb, _, none⟩) htbr).trans d0
      have m1 : Wk.cell? ⟨tb, oo + k * 6 + 1, none⟩ = some (.int .i64 (t.fr : Int)) := (bk.cell (p := ⟨tb, _, none⟩) htbr).trans e1
      have m2 : Wk.cell? ⟨tb, oo + k * 6 + 2, none⟩ = some (.int .i64 (t.to : Int)) := (bk.cell (p := ⟨tb, _, none⟩) htbr).trans e2
      have m3 : Wk.cell? ⟨tb, oo + k * 6 + 3, none⟩ = some (.string SN) := (bk.cell (p := ⟨tb, _, none⟩) htbr).trans e3
      have m4 : Wk.cell? ⟨tb, oo + k * 6 + 4, none⟩ = some (.int .i32 t.r) := (bk.cell (p := ⟨tb, _, none⟩) htbr).trans e4
      have m5 : Wk.cell? ⟨tb, oo + k * 6 + 5, none⟩ = some (.bool t.sg) := (bk.cell (p := ⟨tb, _, none⟩) htbr).trans e5
      clear hWk d0 d1 d2 d3 d4 d5 e1 e2 e3 e4 e5 htbr j1 j2 j3
      have hob := own_block_lt HR.out.2.1
      have hX : ¬ (tb = gn ∨ tb = gx ∨ u5.ownBlock = some tb) := by
        have h1 := HTB.out
        rintro (e | e | e)
        · exact h1.1 (.inl e)
        · exact h1.1 (.inr e)
        · have := (hob _ e).1
          omega
      have g0 : ∀ p : Later (fun q => q = gn ∨ q = gx ∨ u5.ownBlock = some q) Wk, p.W.cell? ⟨tb, oo + k * 6, none⟩ = some (.int .i64 (t.kind : Int)) := fun p => cell_later m0 hX p
      have g1 : ∀ p : Later (fun q => q = gn ∨ q = gx ∨ u5.ownBlock = some q) Wk, p.W.cell? ⟨tb, oo + k * 6 + 1, none⟩ = some (.int .i64 (t.fr : Int)) := fun p => cell_later m1 hX p
      have g2 : ∀ p : Later (fun q => q = gn ∨ q = gx ∨ u5.ownBlock = some q) Wk, p.W.cell? ⟨tb, oo + k * 6 + 2, none⟩ = some (.int .i64 (t.to : Int)) := fun p => cell_later m2 hX p
      have g3 : ∀ p : Later (fun q => q = gn ∨ q = gx ∨ u5.ownBlock = some q) Wk, p.W.cell? ⟨tb, oo + k * 6 + 3, none⟩ = some (.string SN) := fun p => cell_later m3 hX p
      have g4 : ∀ p : Later (fun q => q = gn ∨ q = gx ∨ u5.ownBlock = some q) Wk, p.W.cell? ⟨tb, oo + k * 6 + 4, none⟩ = some (.int .i32 t.r) := fun p => cell_later m4 hX p
      have g5 : ∀ p : Later (fun q => q = gn ∨ q = gx ∨ u5.ownBlock = some q) Wk, p.W.cell? ⟨tb, oo + k * 6 + 5, none⟩ = some (.bool t.sg) := fun p => cell_later m5 hX p
      have f1 : ∀ p : Later (fun q => q = gn ∨ q = gx ∨ u5.ownBlock = some q) Wk, p.W.cell? ⟨tb, oo + (k * 6 + 1), none⟩ = some (.int .i64 (t.fr : Int)) := fun p => by rw [← Nat.add_assoc]; exact g1 p
      have f2 : ∀ p : Later (fun q => q = gn ∨ q = gx ∨ u5.ownBlock = some q) Wk, p.W.cell? ⟨tb, oo + (k * 6 + 2), none⟩ = some (.int .i64 (t.to : Int)) := fun p => by rw [← Nat.add_assoc]; exact g2 p
      have f3 : ∀ p : Later (fun q => q = gn ∨ q = gx ∨ u5.ownBlock = some q) Wk, p.W.cell? ⟨tb, oo + (k * 6 + 3), none⟩ = some (.string SN) := fun p => by rw [← Nat.add_assoc]; exact g3 p
      have f4 : ∀ p : Later (fun q => q = gn ∨ q = gx ∨ u5.ownBlock = some q) Wk, p.W.cell? ⟨tb, oo + (k * 6 + 4), none⟩ = some (.int .i32 t.r) := fun p => by rw [← Nat.add_assoc]; exact g4 p
      have f5 : ∀ p : Later (fun q => q = gn ∨ q = gx ∨ u5.ownBlock = some q) Wk, p.W.cell? ⟨tb, oo + (k * 6 + 5), none⟩ = some (.bool t.sg) := fun p => by rw [← Nat.add_assoc]; exact g5 p
      have HM := Lib.hid (And.intro m0 (And.intro m1 (And.intro m2 (And.intro m3 (And.intro m4 (And.intro m5 hX))))))
      have HZ := Lib.hid (And.intro bk (And.intro hob hrs))
      have hsl := HS.out
      clear bk hob hrs hX m0 m1 m2 m3 m4 m5
      refine wp_region_mixF (fun i => if 18 ≤ i then 2 else 0) [0, 1, 2, 3, 4, 5, 6, 7, 8, 9, 10, 11, 12, 13, 14, 15, 16, 17] 3 (fun w' => ∃ p : Later (fun q => q = gn ∨ q = gx ∨ u5.ownBlock = some q) Wk, w' = p.W) (by kernel_rfl) (by kernel_rfl) ⟨⟨_, Fz.drew Wk⟩, rfl⟩ ?_
      simp only [opsAt, List.filterMap_cons, List.filterMap_nil, List.getElem?_toArray, List.getElem?_cons_zero, List.getElem?_cons_succ]
      change wpQuiet _ _ _ _ [_, _, _, _, _, _, _, _, _, _, _, _, _, _, _, _, _, _] _
      repeat (go_big_quiet_step (fail))
      refine wpQuiet_nil ?_
      clear g0 g1 g2 g3 g4 g5 f1 f2 f3 f4 f5 hsl
      have z0 : Fz (fun q => q = gn ∨ q = gx) Wk { Wk with drawn := Wk.drawn + 1 } := Fz.drew Wk
      have bwk : Below gn w Wk := HR.out.2.2.2.2.2.2.1.trans (HZ.out.1.mono (Nat.le_trans HW2.out.2.1 HZ.out.2.2))
      have nk : NeAt Wk gn s.c := Cells.on HR.out.1.n HZ.out.1
      have xk : Cells Wk gx 63 (exA gn s.f s.x) := HR.out.1.x.on HZ.out.1
      have C1 := HK.out { Wk with drawn := Wk.drawn + 1 } nk xk ⟨bwk.os, bwk.tape, bwk.output, bwk.size, bwk.block⟩
      clear bwk nk xk
      refine wpFreeM_step [18] (by kernel_rfl) ⟨?_, trivial⟩
      refine wpOp_of_list rfl ?_
      go_wp2_with fail
      refine C1.mono ?_
      rintro e w6 ⟨v, rfl, ho6, hv6, hn6, hx6, hz6⟩
      have zk := z0.trans hz6
      have zr : Fz (fun q => q = gn ∨ q = gx) wr w6 := (Fz.of_below HZ.out.1).trans zk
      have own6 : OwnIt w6 w2.heap.size pre u5 := own_fz zr HR.out.2.1 (fun q hq e => by
        have h1 := (HZ.out.2.1 q e).1
        have h2 := HW2.out.2.2.2
        omega)
      have z26 : Fz (fun q => q = gn ∨ q = gx) w2 w6 := HR.out.1.z.trans zr
      have a6 : AW w2 gn gx s' w6 := ⟨HR.out.2.2.2.2.2.1, hn6, hx6, z26⟩
      have H6 := Lib.hid (And.intro own6 (And.intro a6 (And.intro ho6 (And.intro hv6 (zk.mono (Y := fun q => q = gn ∨ q = gx ∨ u5.ownBlock = some q) (fun q hq => hq.elim .inl (fun e => .inr (.inl e))))))))
      clear C1 z0 zk zr own6 z26 a6 ho6 hv6 hn6 hx6 hz6
      go_wp2_with fail
      refine ⟨⟨⟨_, H6.out.2.2.2.2⟩, rfl⟩, ?_⟩
      refine wpFreeM_step [19] (by kernel_rfl) ⟨?_, trivial⟩
      refine wpOp_of_list rfl ?_
      obtain ⟨i42, z42, hi42, _⟩ := info42_parts
      have HI := Lib.hid hi42
      clear hi42
      by_cases hne : its = []
      case pos =>
        obtain rfl := H6.out.2.2.2.1 hne
        have hend : ∃ (k' : Nat) (pre' : List IT) (s'' : ES) (e : Nat), k' ≤ n ∧ Value.int .i64 ((k : Int) + 1) = .int .i64 (k' : Int) ∧ OwnIt w6 w2.heap.size pre' u5 ∧ AW w2 gn gx s'' w6 ∧ pre' ++ allI (bF xs) s'' (L.drop k') = ALL ∧ tiles e (L.drop k') N ∧ pre'.length ≤ e := by
          refine ⟨k + 1, pre, s', t.to, by omega, by simp, H6.out.1, H6.out.2.1, ?_, HR.out.2.2.2.1, by have := HR.out.2.2.2.2.1; omega⟩
          have := HR.out.2.2.1
          rw [hne, List.nil_append] at this
          exact this
        have HEND := Lib.hid hend
        clear hend hne
        refine wpList_append_own_none rfl (.tmp 56) (.tmp 74) 24 rfl w2.heap.size 42 i42 7 Tryz.underlying24 HI.out u5 _ _ rfl H6.out.1 rfl ?_
        go_wp2_with fail
        refine ⟨⟨⟨_, H6.out.2.2.2.2⟩, rfl⟩, ?_⟩
        refine wpFreeM_step [20] (by kernel_rfl) ⟨?_, trivial⟩
        refine wpOp_of_list rfl ?_
        go_wp2_with fail
        refine ⟨⟨⟨_, H6.out.2.2.2.2⟩, rfl⟩, ?_⟩
        unfold wpFreeM
        have m0 : w6.cell? ⟨tb, oo + k * 6, none⟩ = some (.int .i64 (t.kind : Int)) := fz_cell H6.out.2.2.2.2 HM.out.1 HM.out.2.2.2.2.2.2
        have m1 : w6.cell? ⟨tb, oo + k * 6 + 1, none⟩ = some (.int .i64 (t.fr : Int)) := fz_cell H6.out.2.2.2.2 HM.out.2.1 HM.out.2.2.2.2.2.2
        have m2 : w6.cell? ⟨tb, oo + k * 6 + 2, none⟩ = some (.int .i64 (t.to : Int)) := fz_cell H6.out.2.2.2.2 HM.out.2.2.1 HM.out.2.2.2.2.2.2
        have m3 : w6.cell? ⟨tb, oo + k * 6 + 3, none⟩ = some (.string SN) := fz_cell H6.out.2.2.2.2 HM.out.2.2.2.1 HM.out.2.2.2.2.2.2
        have m4 : w6.cell? ⟨tb, oo + k * 6 + 4, none⟩ = some (.int .i32 t.r) := fz_cell H6.out.2.2.2.2 HM.out.2.2.2.2.1 HM.out.2.2.2.2.2.2
        have m5 : w6.cell? ⟨tb, oo + k * 6 + 5, none⟩ = some (.bool t.sg) := fz_cell H6.out.2.2.2.2 HM.out.2.2.2.2.2.1 HM.out.2.2.2.2.2.2
        have n1 : w6.cell? ⟨tb, oo + (k * 6 + 1), none⟩ = some (.int .i64 (t.fr : Int)) := by rw [← Nat.add_assoc]; exact m1
        have n2 : w6.cell? ⟨tb, oo + (k * 6 + 2), none⟩ = some (.int .i64 (t.to : Int)) := by rw [← Nat.add_assoc]; exact m2
        have n3 : w6.cell? ⟨tb, oo + (k * 6 + 3), none⟩ = some (.string SN) := by rw [← Nat.add_assoc]; exact m3
        have n4 : w6.cell? ⟨tb, oo + (k * 6 + 4), none⟩ = some (.int .i32 t.r) := by rw [← Nat.add_assoc]; exact m4
        have n5 : w6.cell? ⟨tb, oo + (k * 6 + 5), none⟩ = some (.bool t.sg) := by rw [← Nat.add_assoc]; exact m5
        go_wp2_with fail
        refine (xtake_nil _ _ _).mono ?_
        rintro e w8 ⟨rfl, b8⟩
        have hend : ∃ (k' : Nat) (pre' : List IT) (s'' : ES) (e : Nat), k' ≤ n ∧ Value.int .i64 ((k : Int) + 1) = .int .i64 (k' : Int) ∧ OwnIt w8 w2.heap.size pre' u5 ∧ AW w2 gn gx s'' w8 ∧ pre' ++ allI (bF xs) s'' (L.drop k') = ALL ∧ tiles e (L.drop k') N ∧ pre'.length ≤ e := by
          obtain ⟨q1, q2, q3, q4, q5, q6, q7, q8, q9, q10, q11⟩ := HEND.out
          exact ⟨q1, q2, q3, q4, q5, q6, q7.below b8, q8.on b8, q9, q10, q11⟩
        have HEND2 := Lib.hid hend
        clear hend b8 HEND m0 m1 m2 m3 m4 m5 n1 n2 n3 n4 n5
        go_wp2_with fail
        go_roundw
        case rel => exact HEND2.out
        case measure => simp [RowKit.intOf]; omega
        
      case neg =>
        obtain ⟨A6, c6, rfl, hIs⟩ := IsA.of_own H6.out.2.2.1
        have hb6 : w2.heap.size ≤ w6.heap.size := H6.out.2.1.z.size
        have hl6 : pre.length + its.length ≤ 1000000 := by
          have h1 := HR.out.2.2.2.2.1
          have h2 := HR.out.2.2.2.2.2.2.2
          omega
        have HI6 := Lib.hid (And.intro hIs (And.intro hb6 (And.intro hl6 hne)))
        clear hIs hb6 hl6 hne
        refine (wpList_appIs rfl (.tmp 56) (.tmp 74) rfl w2.heap.size u5 pre its rfl H6.out.1 A6 c6 HI6.out.1 HI6.out.2.2.2 rfl HI6.out.2.2.1 HI6.out.2.1 ?_)
        intro g cp w7 o7 g7
        have z7 : Fz (fun q => u5.ownBlock = some q) w6 w7 := Fz.of_grown g7 (fun q e => e)
        have hend : ∃ (k' : Nat) (pre' : List IT) (s'' : ES) (e : Nat), k' ≤ n ∧ Value.int .i64 ((k : Int) + 1) = .int .i64 (k' : Int) ∧ OwnIt w7 w2.heap.size pre' (.slice (some ⟨g, 0, none⟩) (pre.length + its.length) cp) ∧ AW w2 gn gx s'' w7 ∧ pre' ++ allI (bF xs) s'' (L.drop k') = ALL ∧ tiles e (L.drop k') N ∧ pre'.length ≤ e := by
          have hgn : ¬ u5.ownBlock = some gn := fun e => by
            have h1 := (HZ.out.2.1 gn e).1
            have h2 := HW2.out.2.2.2
            omega
          have hgx : ¬ u5.ownBlock = some gx := fun e => by
            have h1 := (HZ.out.2.1 gx e).1
            have h2 := HW2.out.2.2.2
            omega
          have h6 := H6.out.2.1
          refine ⟨k + 1, pre ++ its, s', t.to, by omega, by simp, o7, ⟨h6.ok, z7.cellsK hgn h6.n, z7.cellsK hgx h6.x, ?_⟩, ?_, HR.out.2.2.2.1, by have := HR.out.2.2.2.2.1; simp; omega⟩
          · refine ⟨z7.os.trans h6.z.os, z7.tape.trans h6.z.tape, z7.output.trans h6.z.output, Nat.le_trans h6.z.size z7.size, fun q hq hn => (z7.block q (Nat.lt_of_lt_of_le hq h6.z.size) (fun e => ?_)).trans (h6.z.block q hq hn)⟩
            have h1 := (HZ.out.2.1 q e).1
            omega
          · rw [List.append_assoc]
            exact HR.out.2.2.1
        have HEND := Lib.hid hend
        have H7 := Lib.hid (H6.out.2.2.2.2.trans (z7.mono (Y := fun q => q = gn ∨ q = gx ∨ u5.ownBlock = some q) (fun q e => .inr (.inr e))))
        clear hend o7 g7 z7
        go_wp2_with fail
        refine ⟨⟨⟨_, H7.out⟩, rfl⟩, ?_⟩
        refine wpFreeM_step [20] (by kernel_rfl) ⟨?_, trivial⟩
        refine wpOp_of_list rfl ?_
        go_wp2_with fail
        refine ⟨⟨⟨_, H7.out⟩, rfl⟩, ?_⟩
        unfold wpFreeM
        have m0 : w7.cell? ⟨tb, oo + k * 6, none⟩ = some (.int .i64 (t.kind : Int)) := fz_cell H7.out HM.out.1 HM.out.2.2.2.2.2.2
        have m1 : w7.cell? ⟨tb, oo + k * 6 + 1, none⟩ = some (.int .i64 (t.fr : Int)) := fz_cell H7.out HM.out.2.1 HM.out.2.2.2.2.2.2
        have m2 : w7.cell? ⟨tb, oo + k * 6 + 2, none⟩ = some (.int .i64 (t.to : Int)) := fz_cell H7.out HM.out.2.2.1 HM.out.2.2.2.2.2.2
        have m3 : w7.cell? ⟨tb, oo + k * 6 + 3, none⟩ = some (.string SN) := fz_cell H7.out HM.out.2.2.2.1 HM.out.2.2.2.2.2.2
        have m4 : w7.cell? ⟨tb, oo + k * 6 + 4, none⟩ = some (.int .i32 t.r) := fz_cell H7.out HM.out.2.2.2.2.1 HM.out.2.2.2.2.2.2
        have m5 : w7.cell? ⟨tb, oo + k * 6 + 5, none⟩ = some (.bool t.sg) := fz_cell H7.out HM.out.2.2.2.2.2.1 HM.out.2.2.2.2.2.2
        have n1 : w7.cell? ⟨tb, oo + (k * 6 + 1), none⟩ = some (.int .i64 (t.fr : Int)) := by rw [← Nat.add_assoc]; exact m1
        have n2 : w7.cell? ⟨tb, oo + (k * 6 + 2), none⟩ = some (.int .i64 (t.to : Int)) := by rw [← Nat.add_assoc]; exact m2
        have n3 : w7.cell? ⟨tb, oo + (k * 6 + 3), none⟩ = some (.string SN) := by rw [← Nat.add_assoc]; exact m3
        have n4 : w7.cell? ⟨tb, oo + (k * 6 + 4), none⟩ = some (.int .i32 t.r) := by rw [← Nat.add_assoc]; exact m4
        have n5 : w7.cell? ⟨tb, oo + (k * 6 + 5), none⟩ = some (.bool t.sg) := by rw [← Nat.add_assoc]; exact m5
        go_wp2_with fail
        refine (xtake_nil _ _ _).mono ?_
        rintro e w8 ⟨rfl, b8⟩
        have hend : ∃ (k' : Nat) (pre' : List IT) (s'' : ES) (e : Nat), k' ≤ n ∧ Value.int .i64 ((k : Int) + 1) = .int .i64 (k' : Int) ∧ OwnIt w8 w2.heap.size pre' (.slice (some ⟨g, 0, none⟩) (pre.length + its.length) cp) ∧ AW w2 gn gx s'' w8 ∧ pre' ++ allI (bF xs) s'' (L.drop k') = ALL ∧ tiles e (L.drop k') N ∧ pre'.length ≤ e := by
          obtain ⟨q1, q2, q3, q4, q5, q6, q7, q8, q9, q10, q11⟩ := HEND.out
          exact ⟨q1, q2, q3, q4, q5, q6, q7.below b8, q8.on b8, q9, q10, q11⟩
        have HEND2 := Lib.hid hend
        clear hend b8 HEND m0 m1 m2 m3 m4 m5 n1 n2 n3 n4 n5
        go_wp2_with fail
        go_roundw
        case rel => exact HEND2.out
        case measure => simp [RowKit.intOf]; omega
        
    case neg =>
      obtain rfl : k = n := by omega
      have i1 : ¬ (k : Int) < (k : Int) := by omega
      rw [show L.drop k = [] from List.drop_eq_nil_of_le (by rw [H2.out.2.2.2]; exact Nat.le_refl _)] at hall
      have hall : pre = ALL := by simpa [allI] using hall
      subst hall
      have bwr : Below wv.heap.size wv wr := HBV.out.trans ((show Below w.heap.size w wr by rw [HL.out.2.2.2.2.2.2]; exact HW2.out.1.trans (ha.z.below HW2.out.2.1 HW2.out.2.2.1)).mono HBV.out.size)
      have CG := HG.out wr bwr
      obtain ⟨A5, c5, rfl, hI5⟩ := IsA.of_own ho
      have hc5 := hI5.le
      have hm5 := hI5.mx
      have hpl : pre.length ≤ 100000 := by
        have h1 := tiles_le _ _ _ htl
        have h2 := HL.out.2.2.2.2.2.1
        omega
      obtain ⟨m, hm⟩ : ∃ m, pre.length = m := ⟨_, rfl⟩
      rw [hm] at hc5 hpl ⊢
      have H3 := Lib.hid (And.intro hI5 (And.intro bwr hm))
      clear ho ha htl hpe hkn hk hI5 bwr hm
      go_wp2_with fail
      refine CG.mono ?_
      rintro e w5 ⟨v, rfl, ho5, b5⟩
      obtain ⟨A6, c6, rfl, hI6⟩ := IsA.of_own ho5
      have hc6 := hI6.le
      have hm6 := hI6.mx
      rw [H3.out.2.2] at hc6 ⊢
      have H5 := Lib.hid (And.intro (H3.out.1.on b5) (And.intro hI6 (H3.out.2.1.trans (b5.mono H3.out.2.1.size))))
      clear CG ho5 hI6 b5
      go_wp2_with fail
      go_loopw [9] (fun i wr => ∃ j : Nat, j ≤ m ∧ i = .int .i64 (j : Int) ∧ Below w5.heap.size w5 wr) (fun i _ => m - (RowKit.intOf i).toNat)
      case atStart => exact ⟨0, Nat.zero_le _, rfl, Below.refl _ _⟩
      case round =>
        obtain ⟨j, hj, rfl, hb⟩ := hrel
        by_cases hjm : j < m
        case pos =>
          have i2 : (j : Int) < (m : Int) := by omega
          have ij : (j : Int) ≤ 100000 := by omega
          obtain ⟨x, hx⟩ : ∃ x, pre[j]? = some x := ⟨_, List.getElem?_eq_getElem (by rw [H3.out.2.2]; exact hjm)⟩
          obtain ⟨b1, o1, rfl, hb1, a0, a1, a2, a3, a4, a5, a6⟩ := isA_cells (H5.out.1.below hb) hx
          obtain ⟨b2, o2, rfl, hb2, d0, d1, d2, d3, d4, d5, d6⟩ := isA_cells (H5.out.2.1.below hb) hx
          obtain ⟨xr, xa, xz, xf, xx, xn, xp⟩ := x
          simp only at a0 a1 a2 a3 a4 a5 a6 d0 d1 d2 d3 d4 d5 d6
          have aa1 : wr.cell? ⟨b1, o1 + (j * 7 + 1), none⟩ = some (.int .i64 xa) := by rw [← Nat.add_assoc]; exact a1
          have aa2 : wr.cell? ⟨b1, o1 + (j * 7 + 2), none⟩ = some (.int .i64 xz) := by rw [← Nat.add_assoc]; exact a2
          have aa3 : wr.cell? ⟨b1, o1 + (j * 7 + 3), none⟩ = some (.bool xf) := by rw [← Nat.add_assoc]; exact a3
          have aa4 : wr.cell? ⟨b1, o1 + (j * 7 + 4), none⟩ = some (.bool xx) := by rw [← Nat.add_assoc]; exact a4
          have aa5 : wr.cell? ⟨b1, o1 + (j * 7 + 5), none⟩ = some (.bool xn) := by rw [← Nat.add_assoc]; exact a5
          have aa6 : wr.cell? ⟨b1, o1 + (j * 7 + 6), none⟩ = some (.bool xp) := by rw [← Nat.add_assoc]; exact a6
          have dd1 : wr.cell? ⟨b2, o2 + (j * 7 + 1), none⟩ = some (.int .i64 xa) := by rw [← Nat.add_assoc]; exact d1
          have dd2 : wr.cell? ⟨b2, o2 + (j * 7 + 2), none⟩ = some (.int .i64 xz) := by rw [← Nat.add_assoc]; exact d2
          have dd3 : wr.cell? ⟨b2, o2 + (j * 7 + 3), none⟩ = some (.bool xf) := by rw [← Nat.add_assoc]; exact d3
          have dd4 : wr.cell? ⟨b2, o2 + (j * 7 + 4), none⟩ = some (.bool xx) := by rw [← Nat.add_assoc]; exact d4
          have dd5 : wr.cell? ⟨b2, o2 + (j * 7 + 5), none⟩ = some (.bool xn) := by rw [← Nat.add_assoc]; exact d5
          have dd6 : wr.cell? ⟨b2, o2 + (j * 7 + 6), none⟩ = some (.bool xp) := by rw [← Nat.add_assoc]; exact d6
          have HB5 := Lib.hid hb
          clear hb hx hb1 hb2
          go_upto_region 21 with fail
          go_quiet (fail)
          have b7 : Below w5.heap.size w5 (wr.drewN nq) := below_drewN HB5.out nq
          have hend : ∃ i : Nat, i ≤ m ∧ Value.int .i64 ((j : Int) + 1) = .int .i64 (i : Int) ∧ Below w5.heap.size w5 (wr.drewN nq) := ⟨j + 1, by omega, by simp, b7⟩
          have HEND := Lib.hid hend
          clear hend b7
          go_wp2_with fail
          go_roundw
          case rel => exact HEND.out
          case measure => simp [RowKit.intOf]; omega
        case neg =>
          obtain rfl : j = m := by omega
          have i2 : ¬ (j : Int) < (j : Int) := by omega
          have HZ := Lib.hid (H5.out.2.2.trans (hb.mono H5.out.2.2.size))
          clear hb hjm hj
          go_wp2_with fail
          go_ret
          exact ⟨rfl, HZ.out⟩
end Go.Proofs.YtojinnnpfjhifaaGreatDoor.K

namespace Go.Proofs.YtojinnnpfjhifaaGreatDoor.K
open Go.RowKit Go.Shelf Go.Lib Go.Maps
attribute [local irreducible] nmL ofN

set_option maxRecDepth 100000 in
set_option maxHeartbeats 8000000 in
theorem risesLaw (xs : List Nat) (A : Option Addr) (cap : Nat) (w : World) (hb : BY w w.heap.size xs A cap) (hM : G.MX w) (hT : S.Tabs w) :
    Calls Tryz.prog 5 #[.slice A xs.length cap] w fun e w' => e = .returned (.bool true) ∧ Below w.heap.size w w' := by
  have CW := xawake_any w hM hT
  have hcap := hb.l
  have hmx := hb.m
  by_cases hl : xs.length ≤ 300
  case neg =>
    obtain ⟨N, hN⟩ : ∃ q, xs.length = q := ⟨_, rfl⟩
    rw [hN] at hcap hl ⊢
    have i0 : (300 : Int) < (N : Int) := by omega
    have HC := Lib.hid CW
    clear CW hb hM hT hN hl
    go_enter Tryz.func5, Tryz.ntmps5
    go_wp2_with fail
    refine HC.out.mono ?_
    rintro e w1 ⟨rfl, b1⟩
    go_wp2_with fail
    go_ret
    exact ⟨rfl, b1⟩
  have CG := fun W (h : Below w.heap.size w W) => xall_any xs A cap W (hb.on h) (by omega) (hM.on hM.pos h) (hT.below h (by have := hT.2; omega))
  have CA := fun (i : Int) W (h : Below w.heap.size w W) => At_any xs A cap i W (hb.on h) (by omega) (hM.on hM.pos h) (hT.below h (by have := hT.2; omega))
  obtain ⟨L, hL⟩ : ∃ q, eachL xs = q := ⟨_, rfl⟩
  have htl : tiles 0 L xs.length := by rw [← hL]; exact eachL_tiles xs
  simp only [hL] at CG CA
  have hri := all_rise (bF xs) L es0 0 _ htl
  have hin := all_in (bF xs) L es0 0 _ htl
  obtain ⟨ALL, hALL⟩ : ∃ q, allI (bF xs) es0 L = q := ⟨_, rfl⟩
  simp only [hALL] at CG hri hin
  obtain ⟨N, hN⟩ : ∃ q, xs.length = q := ⟨_, rfl⟩
  rw [hN] at htl hl hcap hri ⊢
  simp only [hN] at CG CA
  have i0 : ¬ (300 : Int) < (N : Int) := by omega
  have HE := Lib.hid (And.intro htl (And.intro hri (And.intro hin hl)))
  have HG := Lib.hid (And.intro CG CA)
  clear hL htl hri hin hALL hN hl hb hM hT CG CA
  go_enter Tryz.func5, Tryz.ntmps5
  go_wp2_with fail
  refine CW.mono ?_
  rintro e w1 ⟨rfl, b1⟩
  clear CW
  have CG := HG.out.1 w1 b1
  have H1 := Lib.hid b1
  clear b1
  go_wp2_with fail
  refine CG.mono ?_
  rintro e w2 ⟨v, rfl, ho, b2⟩
  clear CG
  obtain ⟨A2, c2, rfl, hI⟩ := IsA.of_own ho
  have hle := hI.le
  have hmx2 := hI.mx
  obtain ⟨m, hm⟩ : ∃ q, ALL.length = q := ⟨_, rfl⟩
  rw [hm] at hle ⊢
  have HL0 : m ≤ 300 := by
    have h1 := rise_len _ _ _ HE.out.2.1
    have h2 := HE.out.2.2.2
    omega
  have H2 := Lib.hid (And.intro hI (And.intro (H1.out.trans (b2.mono H1.out.size)) hm))
  clear ho b2 hI hm
  go_wp2_with fail
  go_loopw [4, 5, 6, 7] (fun a i _ _ wr => ∃ (k : Nat) (e : Int), k ≤ m ∧ i = .int .i64 (k : Int) ∧ a = .int .i64 e ∧ 0 ≤ e ∧ rise e (ALL.drop k) (N : Int) ∧ Below w2.heap.size w2 wr) (fun _ i _ _ _ => m - (RowKit.intOf i).toNat)
  case atStart => exact ⟨0, 0, Nat.zero_le _, rfl, rfl, Int.le_refl _, by simpa using HE.out.2.1, Below.refl _ _⟩
  case round =>
    obtain ⟨k, e, hk, rfl, rfl, he0, hri, hb⟩ := hrel
    by_cases hkm : k < m
    case pos =>
      have i1 : (k : Int) < (m : Int) := by omega
      obtain ⟨x, hx⟩ : ∃ x, ALL[k]? = some x := ⟨_, List.getElem?_eq_getElem (by rw [H2.out.2.2]; exact hkm)⟩
      rw [drop_cons hx] at hri
      obtain ⟨t, htm, hw⟩ := HE.out.2.2.1 x (List.mem_of_getElem? hx)
      have hat := at_of_tiles L 0 N HE.out.1 x.at_ t htm hw.1 hw.2.1
      obtain ⟨b, o, rfl, hbb, a0, a1, a2, a3, a4, a5, a6⟩ := isA_cells (H2.out.1.below hb) hx
      obtain ⟨xr, xa, xz, xf, xx, xn, xp⟩ := x
      have hr1 : e ≤ xa := hri.1
      have hr2 : 1 ≤ xz := hri.2.1
      have hr3 := hri.2.2
      have hr4 := rise_le _ _ _ hr3
      simp only at a0 a1 a2 a3 a4 a5 a6 hr3 hr4 hat
      unfold within at hw
      simp only at hw
      have j1 : ¬ xa < e := by omega
      have j2 : ¬ xz < 1 := by omega
      have l1 : xa ≤ 300 := by have := HE.out.2.2.2; omega
      have l2 : xz ≤ 300 := by have := HE.out.2.2.2; omega
      have l3 : 0 ≤ xa := by omega
      have l4 : (k : Int) ≤ 100000 := by
        have h1 := H2.out.2.2
        have h2 := HL0
        omega
      obtain ⟨SN, hSN⟩ : ∃ q : ByteArray, (⟨(G.u8s t.name).toArray⟩ : ByteArray) = q := ⟨_, rfl⟩
      have HX := Lib.hid hx
      have HB := Lib.hid (And.intro hb (And.intro hat hr3))
      clear hri hr3 hr4 hat hb hx hbb htm
      rcases hw.2.2.2 with hk0 | ⟨hk1, hf1, ht1⟩
      · have htv : tokV t = .agg #[.int .i64 0, .int .i64 (t.fr : Int), .int .i64 (t.to : Int), .string SN, .int .i32 t.r, .bool t.sg] := by
          unfold tokV tokC
          rw [hSN, hk0]
          rfl
        have j3 : decide ((t.to : Int) < xa + xz) = false := by rw [decide_eq_false_iff_not]; have := hw.2.2.1; omega
        have HT := Lib.hid htv
        clear htv hk0 hSN hw
        go_upto_region 10 with fail
        go_quiet (fail)
        have bq : Below w2.heap.size w2 (wr.drewN nq) := below_drewN HB.out.1 nq
        have CA := HG.out.2 xa (wr.drewN nq) (H2.out.2.1.trans (bq.mono H2.out.2.1.size))
        rw [HB.out.2.1, Option.getD_some, Option.isSome_some, HT.out] at CA
        have HQ := Lib.hid (And.intro bq HB.out.2.2)
        clear bq
        go_wp2_with fail
        refine CA.mono ?_
        rintro e' w7 ⟨rfl, b7⟩
        clear CA
        have b27 : Below w2.heap.size w2 w7 := HQ.out.1.trans (b7.mono HQ.out.1.size)
        have t8 := cells_new w7 #[.int .i64 0, .int .i64 (t.fr : Int), .int .i64 (t.to : Int), .string SN, .int .i32 t.r, .bool t.sg] 40
        have b8 := below_new w7 (.cells #[.int .i64 0, .int .i64 (t.fr : Int), .int .i64 (t.to : Int), .string SN, .int .i32 t.r, .bool t.sg] 40)
        have b28 := b27.trans (b8.mono b27.size)
        obtain ⟨W8, hW8⟩ : ∃ V, w7.alloc (.cells #[.int .i64 0, .int .i64 (t.fr : Int), .int .i64 (t.to : Int), .string SN, .int .i32 t.r, .bool t.sg] 40) = V := ⟨_, rfl⟩
        rw [hW8] at t8 b28
        clear a0 a1 a2 a3 a4 a5 a6
        obtain ⟨b', o', ee, _, a0, a1, a2, a3, a4, a5, a6⟩ := isA_cells (H2.out.1.below b28) HX.out
        cases ee
        simp only at a0 a1 a2 a3 a4 a5 a6
        have y0 : W8.cell? ⟨w7.heap.size, 0, none⟩ = some (.int .i64 0) := t8.cell 0
        have y1 : W8.cell? ⟨w7.heap.size, 1, none⟩ = some (.int .i64 (t.fr : Int)) := t8.cell 1
        have y2 : W8.cell? ⟨w7.heap.size, 2, none⟩ = some (.int .i64 (t.to : Int)) := t8.cell 2
        have HW8 := Lib.hid hW8
        have H8 := Lib.hid b28
        clear t8 b8 b27 b28 hW8 b7
        go_upto_region 12 with fail
        rw [HW8.out]
        have g0 : ∀ p : Later (fun _ => False) W8, p.W.cell? ⟨w7.heap.size, 0, none⟩ = some (.int .i64 0) := fun p => cell_later y0 (fun hf => hf) p
        have g1 : ∀ p : Later (fun _ => False) W8, p.W.cell? ⟨w7.heap.size, 1, none⟩ = some (.int .i64 (t.fr : Int)) := fun p => cell_later y1 (fun hf => hf) p
        have g2 : ∀ p : Later (fun _ => False) W8, p.W.cell? ⟨w7.heap.size, 2, none⟩ = some (.int .i64 (t.to : Int)) := fun p => cell_later y2 (fun hf => hf) p
        have g3 : ∀ p : Later (fun _ => False) W8, p.W.cell? ⟨b, o + k * 7 + 1, none⟩ = some (.int .i64 xa) := fun p => cell_later a1 (fun hf => hf) p
        clear y0 y1 y2 a0 a1 a2 a3 a4 a5 a6
        refine wp_region_mixF (fun _ => 0) [0, 1, 2, 3, 4, 5, 6, 7, 8, 9, 10, 11, 12, 13, 14, 15, 16, 17, 18, 19, 20, 21, 22, 23, 24, 25, 26, 27, 28, 29, 30, 31, 32, 33] 0 (fun w' => ∃ p : Later (fun _ => False) W8, w' = p.W) (by kernel_rfl) (by kernel_rfl) ⟨⟨_, Fz.drew W8⟩, rfl⟩ ?_
        simp only [opsAt, List.filterMap_cons, List.filterMap_nil, List.getElem?_toArray, List.getElem?_cons_zero, List.getElem?_cons_succ]
        change wpQuiet _ _ _ _ (_ :: _ :: _ :: _ :: _ :: _ :: _ :: _ :: _ :: _ :: _ :: _ :: _ :: _ :: _ :: _ :: _ :: _ :: _ :: _ :: _ :: _ :: _ :: _ :: _ :: _ :: _ :: _ :: _ :: _ :: _ :: _ :: _ :: _ :: []) _
        repeat (go_big_quiet_step (fail))
        refine wpQuiet_nil ?_
        unfold wpFreeM
        have hend : ∃ (k' : Nat) (e : Int), k' ≤ m ∧ Value.int .i64 ((k : Int) + 1) = .int .i64 (k' : Int) ∧ Value.int .i64 (xa + xz) = .int .i64 e ∧ 0 ≤ e ∧ rise e (ALL.drop k') (N : Int) ∧ Below w2.heap.size w2 { W8 with drawn := W8.drawn + 1 } := ⟨k + 1, _, by omega, by simp, rfl, by omega, HQ.out.2, ⟨H8.out.os, H8.out.tape, H8.out.output, H8.out.size, H8.out.block⟩⟩
        have HEND := Lib.hid hend
        clear hend
        go_wp2_with fail
        go_roundw
        case rel => exact HEND.out
        case measure => simp [RowKit.intOf]; omega
      · have htv : tokV t = .agg #[.int .i64 1, .int .i64 xa, .int .i64 (xa + xz), .string SN, .int .i32 t.r, .bool t.sg] := by
          unfold tokV tokC
          rw [hSN, hk1, ← hf1, ← ht1]
          rfl
        have HT := Lib.hid htv
        clear htv hk1 hf1 ht1 hSN hw
        go_upto_region 10 with fail
        go_quiet (fail)
        have bq : Below w2.heap.size w2 (wr.drewN nq) := below_drewN HB.out.1 nq
        have CA := HG.out.2 xa (wr.drewN nq) (H2.out.2.1.trans (bq.mono H2.out.2.1.size))
        rw [HB.out.2.1, Option.getD_some, Option.isSome_some, HT.out] at CA
        have HQ := Lib.hid (And.intro bq HB.out.2.2)
        clear bq
        go_wp2_with fail
        refine CA.mono ?_
        rintro e' w7 ⟨rfl, b7⟩
        clear CA
        have b27 : Below w2.heap.size w2 w7 := HQ.out.1.trans (b7.mono HQ.out.1.size)
        have t8 := cells_new w7 #[.int .i64 1, .int .i64 xa, .int .i64 (xa + xz), .string SN, .int .i32 t.r, .bool t.sg] 40
        have b8 := below_new w7 (.cells #[.int .i64 1, .int .i64 xa, .int .i64 (xa + xz), .string SN, .int .i32 t.r, .bool t.sg] 40)
        have b28 := b27.trans (b8.mono b27.size)
        obtain ⟨W8, hW8⟩ : ∃ V, w7.alloc (.cells #[.int .i64 1, .int .i64 xa, .int .i64 (xa + xz), .string SN, .int .i32 t.r, .bool t.sg] 40) = V := ⟨_, rfl⟩
        rw [hW8] at t8 b28
        clear a0 a1 a2 a3 a4 a5 a6
        obtain ⟨b', o', ee, _, a0, a1, a2, a3, a4, a5, a6⟩ := isA_cells (H2.out.1.below b28) HX.out
        cases ee
        simp only at a0 a1 a2 a3 a4 a5 a6
        have y0 : W8.cell? ⟨w7.heap.size, 0, none⟩ = some (.int .i64 1) := t8.cell 0
        have y1 : W8.cell? ⟨w7.heap.size, 1, none⟩ = some (.int .i64 xa) := t8.cell 1
        have y2 : W8.cell? ⟨w7.heap.size, 2, none⟩ = some (.int .i64 (xa + xz)) := t8.cell 2
        have HW8 := Lib.hid hW8
        have H8 := Lib.hid b28
        clear t8 b8 b27 b28 hW8 b7
        go_upto_region 12 with fail
        rw [HW8.out]
        have g0 : ∀ p : Later (fun _ => False) W8, p.W.cell? ⟨w7.heap.size, 0, none⟩ = some (.int .i64 1) := fun p => cell_later y0 (fun hf => hf) p
        have g1 : ∀ p : Later (fun _ => False) W8, p.W.cell? ⟨w7.heap.size, 1, none⟩ = some (.int .i64 xa) := fun p => cell_later y1 (fun hf => hf) p
        have g2 : ∀ p : Later (fun _ => False) W8, p.W.cell? ⟨w7.heap.size, 2, none⟩ = some (.int .i64 (xa + xz)) := fun p => cell_later y2 (fun hf => hf) p
        have g3 : ∀ p : Later (fun _ => False) W8, p.W.cell? ⟨b, o + k * 7 + 1, none⟩ = some (.int .i64 xa) := fun p => cell_later a1 (fun hf => hf) p
        clear y0 y1 y2 a0 a1 a2 a3 a4 a5 a6
        refine wp_region_mixF (fun _ => 0) [0, 1, 2, 3, 4, 5, 6, 7, 8, 9, 10, 11, 12, 13, 14, 15, 16, 17, 18, 19, 20, 21, 22, 23, 24, 25, 26, 27, 28, 29, 30, 31, 32, 33] 0 (fun w' => ∃ p : Later (fun _ => False) W8, w' = p.W) (by kernel_rfl) (by kernel_rfl) ⟨⟨_, Fz.drew W8⟩, rfl⟩ ?_
        simp only [opsAt, List.filterMap_cons, List.filterMap_nil, List.getElem?_toArray, List.getElem?_cons_zero, List.getElem?_cons_succ]
        change wpQuiet _ _ _ _ (_ :: _ :: _ :: _ :: _ :: _ :: _ :: _ :: _ :: _ :: _ :: _ :: _ :: _ :: _ :: _ :: _ :: _ :: _ :: _ :: _ :: _ :: _ :: _ :: _ :: _ :: _ :: _ :: _ :: _ :: _ :: _ :: _ :: _ :: []) _
        repeat (go_big_quiet_step (fail))
        refine wpQuiet_nil ?_
        unfold wpFreeM
        have hend : ∃ (k' : Nat) (e : Int), k' ≤ m ∧ Value.int .i64 ((k : Int) + 1) = .int .i64 (k' : Int) ∧ Value.int .i64 (xa + xz) = .int .i64 e ∧ 0 ≤ e ∧ rise e (ALL.drop k') (N : Int) ∧ Below w2.heap.size w2 { W8 with drawn := W8.drawn + 1 } := ⟨k + 1, _, by omega, by simp, rfl, by omega, HQ.out.2, ⟨H8.out.os, H8.out.tape, H8.out.output, H8.out.size, H8.out.block⟩⟩
        have HEND := Lib.hid hend
        clear hend
        go_wp2_with fail
        go_roundw
        case rel => exact HEND.out
        case measure => simp [RowKit.intOf]; omega
    case neg =>
      obtain rfl : k = m := by omega
      have i1 : ¬ (k : Int) < (k : Int) := by omega
      have h1 := rise_le _ _ _ hri
      have HZ := Lib.hid (H2.out.2.1.trans (hb.mono H2.out.2.1.size))
      clear hb hkm hk hri he0
      go_wp2_with fail
      go_ret
      exact ⟨rfl, HZ.out⟩
end Go.Proofs.YtojinnnpfjhifaaGreatDoor.K

