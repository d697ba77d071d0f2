/-
  Contract: virgulelaw16.awake.
-/
import Derived.Test.YtpimadgcojgjaaaDoorRea
import Derived.Test.YtpimadgcojgjaaaDoorOpe
import Derived.Test.YtpimadgcojgjaaaDoorCvb
namespace Go.Proofs.YtpimadgcojgjaaaDoor
open Go.RowKit Go.Shelf Go.Lib Go.Maps

theorem aw1 : readE [120, 38, 97, 109, 112, 59] 1 = (38, 5) := by decide +kernel
theorem aw2 : readE [38, 35, 120, 52, 49, 59] 0 = (65, 6) := by decide +kernel
theorem aw3 : readE [38, 35, 48, 59] 0 = (65533, 4) := by decide +kernel
theorem aw4 : openS styL [38, 97, 109, 112] = true := by decide +kernel
set_option maxHeartbeats 4000000 in
set_option maxRecDepth 100000 in
theorem awake16_any (w : World) (hT : S.Tabs w) : Calls Tryd.prog 13 #[] w fun r w' => r = .returned (.bool true) ∧ Below w.heap.size w w' := by
  have C1 : ∀ W : World, Below w.heap.size w W → Calls Tryd.prog 14 #[.slice (some ⟨W.heap.size, 0, none⟩) 6 6, .int .i64 1] (W.alloc (.cells #[.int .u8 120, .int .u8 38, .int .u8 97, .int .u8 109, .int .u8 112, .int .u8 59] 5 (6, 7))) fun r w' => r = .returned (.tuple #[.int .i32 38, .int .i64 5]) ∧ Below w.heap.size w w' := fun W hb => by
    have b1 : Below w.heap.size w (W.alloc (.cells #[.int .u8 120, .int .u8 38, .int .u8 97, .int .u8 109, .int .u8 112, .int .u8 59] 5 (6, 7))) := hb.trans ((below_new W _).mono hb.size)
    have := readE_any (W.alloc (.cells #[.int .u8 120, .int .u8 38, .int .u8 97, .int .u8 109, .int .u8 112, .int .u8 59] 5 (6, 7))) (hT.below b1 hT.2) [120, 38, 97, 109, 112, 59] (some ⟨W.heap.size, 0, none⟩) 6 (by_lit W [120, 38, 97, 109, 112, 59] (6, 7) (by decide) (by decide)) 1 (by decide) (by decide)
    rw [aw1] at this
    exact this.mono fun e w' h => ⟨h.1, b1.trans (h.2.mono b1.size)⟩
  have C2 : ∀ W : World, Below w.heap.size w W → Calls Tryd.prog 14 #[.slice (some ⟨W.heap.size, 0, none⟩) 6 6, .int .i64 0] (W.alloc (.cells #[.int .u8 38, .int .u8 35, .int .u8 120, .int .u8 52, .int .u8 49, .int .u8 59] 5 (6, 7))) fun r w' => r = .returned (.tuple #[.int .i32 65, .int .i64 6]) ∧ Below w.heap.size w w' := fun W hb => by
    have b1 : Below w.heap.size w (W.alloc (.cells #[.int .u8 38, .int .u8 35, .int .u8 120, .int .u8 52, .int .u8 49, .int .u8 59] 5 (6, 7))) := hb.trans ((below_new W _).mono hb.size)
    have := readE_any (W.alloc (.cells #[.int .u8 38, .int .u8 35, .int .u8 120, .int .u8 52, .int .u8 49, .int .u8 59] 5 (6, 7))) (hT.below b1 hT.2) [38, 35, 120, 52, 49, 59] (some ⟨W.heap.size, 0, none⟩) 6 (by_lit W [38, 35, 120, 52, 49, 59] (6, 7) (by decide) (by decide)) 0 (by decide) (by decide)
    rw [aw2] at this
    exact this.mono fun e w' h => ⟨h.1, b1.trans (h.2.mono b1.size)⟩
  have C3 : ∀ W : World, Below w.heap.size w W → Calls Tryd.prog 14 #[.slice (some ⟨W.heap.size, 0, none⟩) 4 4, .int .i64 0] (W.alloc (.cells #[.int .u8 38, .int .u8 35, .int .u8 48, .int .u8 59] 5 (4, 5))) fun r w' => r = .returned (.tuple #[.int .i32 65533, .int .i64 4]) ∧ Below w.heap.size w w' := fun W hb => by
    have b1 : Below w.heap.size w (W.alloc (.cells #[.int .u8 38, .int .u8 35, .int .u8 48, .int .u8 59] 5 (4, 5))) := hb.trans ((below_new W _).mono hb.size)
    have := readE_any (W.alloc (.cells #[.int .u8 38, .int .u8 35, .int .u8 48, .int .u8 59] 5 (4, 5))) (hT.below b1 hT.2) [38, 35, 48, 59] (some ⟨W.heap.size, 0, none⟩) 4 (by_lit W [38, 35, 48, 59] (4, 5) (by decide) (by decide)) 0 (by decide) (by decide)
    rw [aw3] at this
    exact this.mono fun e w' h => ⟨h.1, b1.trans (h.2.mono b1.size)⟩
  have C4 : ∀ W : World, Below w.heap.size w W → Calls Tryd.prog 16 #[.slice (some ⟨W.heap.size, 0, none⟩) 4 4] (W.alloc (.cells #[.int .u8 38, .int .u8 97, .int .u8 109, .int .u8 112] 5 (4, 5))) fun r w' => r = .returned (.bool true) ∧ Below w.heap.size w w' := fun W hb => by
    have b1 : Below w.heap.size w (W.alloc (.cells #[.int .u8 38, .int .u8 97, .int .u8 109, .int .u8 112] 5 (4, 5))) := hb.trans ((below_new W _).mono hb.size)
    have := openE_any (W.alloc (.cells #[.int .u8 38, .int .u8 97, .int .u8 109, .int .u8 112] 5 (4, 5))) [38, 97, 109, 112] (some ⟨W.heap.size, 0, none⟩) 4 (by_lit W [38, 97, 109, 112] (4, 5) (by decide) (by decide))
    rw [aw4] at this
    exact this.mono fun e w' h => ⟨h.1, b1.trans (h.2.mono b1.size)⟩
  have H := Lib.hid (And.intro C1 (And.intro C2 (And.intro C3 C4)))
  clear C1 C2 C3 C4 hT
  have v1 : (convert 22 22 (.slice (some ⟨w.heap.size, 0, none⟩) 6 6)).run Tryd.prog (w.alloc (.cells #[.int .u8 120, .int .u8 38, .int .u8 97, .int .u8 109, .int .u8 112, .int .u8 59] 5)) = .ok (.slice (some ⟨w.heap.size, 0, none⟩) 6 6) (w.alloc (.cells #[.int .u8 120, .int .u8 38, .int .u8 97, .int .u8 109, .int .u8 112, .int .u8 59] 5 (6, 7))) := Lib.run_convert_bytes_const w 22 5 _ 6 6 Tryd.underlying22 Tryd.underlying5
  go_enter Tryd.func13, Tryd.ntmps13
  go_wp2_with fail
  refine (H.out.1 _ (Below.refl _ _)).mono ?_
  rintro r w1 ⟨rfl, hb1⟩
  have HB1 := Lib.hid hb1
  clear hb1 v1
  have v2 : (convert 22 22 (.slice (some ⟨w1.heap.size, 0, none⟩) 6 6)).run Tryd.prog (w1.alloc (.cells #[.int .u8 38, .int .u8 35, .int .u8 120, .int .u8 52, .int .u8 49, .int .u8 59] 5)) = .ok (.slice (some ⟨w1.heap.size, 0, none⟩) 6 6) (w1.alloc (.cells #[.int .u8 38, .int .u8 35, .int .u8 120, .int .u8 52, .int .u8 49, .int .u8 59] 5 (6, 7))) := Lib.run_convert_bytes_const w1 22 5 _ 6 6 Tryd.underlying22 Tryd.underlying5
  go_wp2_with fail
  refine (H.out.2.1 _ HB1.out).mono ?_
  rintro r w2 ⟨rfl, hb2⟩
  have HB2 := Lib.hid hb2
  clear hb2 v2
  have v3 : (convert 22 22 (.slice (some ⟨w2.heap.size, 0, none⟩) 4 4)).run Tryd.prog (w2.alloc (.cells #[.int .u8 38, .int .u8 35, .int .u8 48, .int .u8 59] 5)) = .ok (.slice (some ⟨w2.heap.size, 0, none⟩) 4 4) (w2.alloc (.cells #[.int .u8 38, .int .u8 35, .int .u8 48, .int .u8 59] 5 (4, 5))) := Lib.run_convert_bytes_const w2 22 5 _ 4 4 Tryd.underlying22 Tryd.underlying5
  go_wp2_with fail
  refine (H.out.2.2.1 _ HB2.out).mono ?_
  rintro r w3 ⟨rfl, hb3⟩
  have HB3 := Lib.hid hb3
  clear hb3 v3
  have v4 : (convert 22 22 (.slice (some ⟨w3.heap.size, 0, none⟩) 4 4)).run Tryd.prog (w3.alloc (.cells #[.int .u8 38, .int .u8 97, .int .u8 109, .int .u8 112] 5)) = .ok (.slice (some ⟨w3.heap.size, 0, none⟩) 4 4) (w3.alloc (.cells #[.int .u8 38, .int .u8 97, .int .u8 109, .int .u8 112] 5 (4, 5))) := Lib.run_convert_bytes_const w3 22 5 _ 4 4 Tryd.underlying22 Tryd.underlying5
  go_wp2_with fail
  refine (H.out.2.2.2 _ HB3.out).mono ?_
  rintro r w4 ⟨rfl, hb4⟩
  have HB4 := Lib.hid hb4
  clear hb4 v4
  go_wp2_with fail
  go_ret
  exact ⟨rfl, HB4.out⟩
end Go.Proofs.YtpimadgcojgjaaaDoor
