/- SnapReads: the walk. -/
import Derived.Deep.DeepCutAuto
import Derived.Test.YtcbalhicaipmlaaGreatRSrA
namespace Go.Proofs.YtcbalhicaipmlaaGreat
open Go.RowKit
set_option maxRecDepth 100000 in
set_option maxHeartbeats 4000000 in
theorem snapReads_long (a b : ByteArray) (k : Int) (h : 3000 < a.size ∨ 3000 < b.size) (w : World) :
    Calls Tryz.prog 4 #[.string a, .string b, .int .u8 k] w fun e w' => e = .returned (.bool true) ∧ Below w.heap.size w w' := by
  have ways : (3000 : Int) < (a.size : Int) ∨ (¬ (3000 : Int) < (a.size : Int) ∧ (3000 : Int) < (b.size : Int)) := by omega
  clear h
  rcases ways with h | ⟨h, h'⟩
  all_goals
    go_enter Tryz.func4, Tryz.ntmps4
    go_wp2_with fail
    refine (saves_calls _).mono ?_
    rintro e w1 ⟨rfl, hb1⟩
    have HB := hid hb1
    clear hb1
    go_wp2
    go_ret
    exact ⟨rfl, HB.out⟩
set_option maxRecDepth 100000 in
set_option maxHeartbeats 40000000 in
theorem snapReads_calls (b body : List UInt8) (kind : UInt8) (hb : b.length ≤ 3000) (hy : body.length ≤ 3000) (w : World) :
    Calls Tryz.prog 4 #[.string ⟨b.toArray⟩, .string ⟨body.toArray⟩, .int .u8 (kind.toNat : Int)] w fun e w' => e = .returned (.bool true) ∧ Below w.heap.size w w' := by
  have z1 : ¬ (3000 : Int) < (((⟨b.toArray⟩ : ByteArray).size : Nat) : Int) := by rw [sizeR]; omega
  have z2 : ¬ (3000 : Int) < (((⟨body.toArray⟩ : ByteArray).size : Nat) : Int) := by rw [sizeR]; omega
  go_enter Tryz.func4, Tryz.ntmps4
  go_wp2_with fail
  refine (saves_calls _).mono ?_
  rintro e w1 ⟨rfl, hb1⟩
  have HB1 := hid hb1
  clear hb1
  go_wp2_with fail
  refine (framed_calls kind body (by omega) _).mono ?_
  rintro e w2 ⟨rfl, hb2⟩
  have HB2 : Hid (Below w.heap.size w w2) := HB1.out.trans (hb2.mono HB1.out.size)
  have hfl := frameL_length kind body
  obtain ⟨f, hf⟩ : ∃ f, frameL kind body = f := ⟨_, rfl⟩
  rw [hf] at hfl ⊢
  obtain ⟨V, hV⟩ : ∃ V, w2.alloc (.cells #[.string ⟨b.toArray⟩, .string ⟨f.toArray⟩] 9) = V := ⟨_, rfl⟩
  have hTV : TwoR V w2.heap.size b f V := ⟨Below.refl _ _, by rw [← hV]; exact heap_alloc_new _ _⟩
  have HBV : Hid (Below w.heap.size w V) := by rw [← hV]; exact HB2.out.alloc HB2.out.size _
  have HTV := hid hTV
  have HVE := hid hV
  clear hb2 hf hV hTV HB1
  go_upto_region 5 with fail
  rw [HVE.out]
  clear HVE
  go_wp2
  go_loopw [9] (fun i wr => ∃ k : Nat, k ≤ 2 ∧ i = .int .i64 k ∧ Hid (TwoR V w2.heap.size b f wr)) (fun i _ => 2 - (intOf i).toNat)
  case atStart => exact ⟨0, Nat.zero_le _, rfl, HTV⟩
  case round =>
    clear HTV
    obtain ⟨k, hk, rfl, HT⟩ := hrel
    by_cases hlt : k < 2
    · have hltz : (k : Int) < 2 := by omega
      obtain ⟨x, hx⟩ : ∃ x, (if k = 0 then b else f) = x := ⟨_, rfl⟩
      have hxl : x.length ≤ 10000 := by rw [← hx]; split <;> omega
      have HAT : Hid (∀ wx, TwoR V w2.heap.size b f wx → wx.cell? ⟨w2.heap.size, k, none⟩ = some (.string ⟨x.toArray⟩)) := fun wx h => by rw [← hx]; exact h.at hlt
      clear hx
      have c0 := HAT.out wr HT.out
      obtain ⟨R1, hR1⟩ : ∃ R, rdE x = R := ⟨_, rfl⟩
      have hsm1 := rdE_small x
      have HRR1 := hid hR1
      rw [hR1] at hsm1
      clear hR1
      have HOF := hid (elderOf_calls x hxl wr)
      rw [HRR1.out] at HOF
      go_wp2_with fail
      refine HOF.out.mono ?_
      rintro e v1 ⟨fa1, ea1, fc1, ec1, rfl, hi, hb⟩
      obtain ⟨X1, hX⟩ : ∃ X, v1.alloc (.cells (elC R1.2.t R1.2.g0 R1.2.g1 R1.2.nx (.slice fa1 R1.2.free.length fc1) (.slice ea1 R1.2.es.length ec1)) 26) = X := ⟨_, rfl⟩
      have hbX : Below v1.heap.size v1 X1 := by rw [← hX]; exact (Below.refl _ _).alloc (Nat.le_refl _) _
      have hhX : X1.heap[v1.heap.size]? = some (.cells (elC R1.2.t R1.2.g0 R1.2.g1 R1.2.nx (.slice fa1 R1.2.free.length fc1) (.slice ea1 R1.2.es.length ec1)) 26) := by rw [← hX]; exact heap_alloc_new _ _
      have hbc : Below wr.heap.size wr X1 := hb.trans (hbX.mono hb.size)
      replace HT := hid (HT.out.below hbc)
      have HI1 := hid (hi.below hbX)
      have HHX1 := hid hhX
      have HB1 : Hid (Below X1.heap.size X1 X1) := Below.refl _ _
      obtain ⟨ev1, hev⟩ : ∃ ev, errV R1.1 = ev := ⟨_, rfl⟩
      rw [hev]
      have HSM1 : Hid (∀ wx, Calls Tryz.prog 10 #[ev1, .int .i64 R1.1] wx fun e w' => e = .returned (.bool true) ∧ w' = wx) := fun wx => by rw [← hev]; exact same_seven hsm1.1 wx
      clear hev
      have HXX := hid hX
      clear hX hbX hhX hbc hb hi HOF c0
      go_upto_region 9 with fail
      rw [HXX.out]
      clear HXX
      have c0 := HAT.out X1 HT.out
      have HOF := hid (elderRead_calls x hxl X1)
      rw [HRR1.out] at HOF
      go_wp2_with fail
      refine HOF.out.mono ?_
      rintro e v2 ⟨fa2, ea2, fc2, ec2, rfl, hi, hb⟩
      obtain ⟨X2, hX⟩ : ∃ X, v2.alloc (.cells (elC R1.2.t R1.2.g0 R1.2.g1 R1.2.nx (.slice fa2 R1.2.free.length fc2) (.slice ea2 R1.2.es.length ec2)) 26) = X := ⟨_, rfl⟩
      have hbX : Below v2.heap.size v2 X2 := by rw [← hX]; exact (Below.refl _ _).alloc (Nat.le_refl _) _
      have hhX : X2.heap[v2.heap.size]? = some (.cells (elC R1.2.t R1.2.g0 R1.2.g1 R1.2.nx (.slice fa2 R1.2.free.length fc2) (.slice ea2 R1.2.es.length ec2)) 26) := by rw [← hX]; exact heap_alloc_new _ _
      have hbc : Below X1.heap.size X1 X2 := hb.trans (hbX.mono hb.size)
      replace HB1 := hid (HB1.out.trans (hbc.mono HB1.out.size))
      replace HT := hid (HT.out.below hbc)
      have HI2 := hid (hi.below hbX)
      have HHX2 := hid hhX
      have HB2 : Hid (Below X2.heap.size X2 X2) := Below.refl _ _
      have HXX := hid hX
      clear hX hbX hhX hbc hb hi HOF c0
      go_upto_region 10 with fail
      rw [HXX.out]
      clear HXX
      have c0 := HAT.out X2 HT.out
      obtain ⟨R2, hR2⟩ : ∃ R, rdN x = R := ⟨_, rfl⟩
      have hsm2 := rdN_small x
      have HRR2 := hid hR2
      rw [hR2] at hsm2
      clear hR2
      have HOF := hid (newerOf_calls x hxl X2)
      rw [HRR2.out] at HOF
      go_wp2_with fail
      refine HOF.out.mono ?_
      rintro e v3 ⟨ea3, ec3, rfl, hi, hb⟩
      obtain ⟨X3, hX⟩ : ∃ X, v3.alloc (.cells (newerC R2.2.t R2.2.g0 R2.2.g1 R2.2.nx (.slice ea3 R2.2.es.length ec3)) 32) = X := ⟨_, rfl⟩
      have hbX : Below v3.heap.size v3 X3 := by rw [← hX]; exact (Below.refl _ _).alloc (Nat.le_refl _) _
      have hhX : X3.heap[v3.heap.size]? = some (.cells (newerC R2.2.t R2.2.g0 R2.2.g1 R2.2.nx (.slice ea3 R2.2.es.length ec3)) 32) := by rw [← hX]; exact heap_alloc_new _ _
      have hbc : Below X2.heap.size X2 X3 := hb.trans (hbX.mono hb.size)
      replace HB1 := hid (HB1.out.trans (hbc.mono HB1.out.size))
      replace HB2 := hid (HB2.out.trans (hbc.mono HB2.out.size))
      replace HT := hid (HT.out.below hbc)
      have HI3 := hid (hi.below hbX)
      have HHX3 := hid hhX
      have HB3 : Hid (Below X3.heap.size X3 X3) := Below.refl _ _
      obtain ⟨ev2, hev⟩ : ∃ ev, errV R2.1 = ev := ⟨_, rfl⟩
      rw [hev]
      have HSM2 : Hid (∀ wx, Calls Tryz.prog 10 #[ev2, .int .i64 R2.1] wx fun e w' => e = .returned (.bool true) ∧ w' = wx) := fun wx => by rw [← hev]; exact same_seven hsm2.1 wx
      clear hev
      have HXX := hid hX
      clear hX hbX hhX hbc hb hi HOF c0
      go_upto_region 11 with fail
      rw [HXX.out]
      clear HXX
      have c0 := HAT.out X3 HT.out
      have HOF := hid (newerRead_calls x hxl X3)
      rw [HRR2.out] at HOF
      go_wp2_with fail
      refine HOF.out.mono ?_
      rintro e v4 ⟨ea4, ec4, rfl, hi, hb⟩
      obtain ⟨X4, hX⟩ : ∃ X, v4.alloc (.cells (newerC R2.2.t R2.2.g0 R2.2.g1 R2.2.nx (.slice ea4 R2.2.es.length ec4)) 32) = X := ⟨_, rfl⟩
      have hbX : Below v4.heap.size v4 X4 := by rw [← hX]; exact (Below.refl _ _).alloc (Nat.le_refl _) _
      have hhX : X4.heap[v4.heap.size]? = some (.cells (newerC R2.2.t R2.2.g0 R2.2.g1 R2.2.nx (.slice ea4 R2.2.es.length ec4)) 32) := by rw [← hX]; exact heap_alloc_new _ _
      have hbc : Below X3.heap.size X3 X4 := hb.trans (hbX.mono hb.size)
      replace HB1 := hid (HB1.out.trans (hbc.mono HB1.out.size))
      replace HB2 := hid (HB2.out.trans (hbc.mono HB2.out.size))
      replace HB3 := hid (HB3.out.trans (hbc.mono HB3.out.size))
      replace HT := hid (HT.out.below hbc)
      have HI4 := hid (hi.below hbX)
      have HHX4 := hid hhX
      have HB4 : Hid (Below X4.heap.size X4 X4) := Below.refl _ _
      have HXX := hid hX
      clear hX hbX hhX hbc hb hi HOF c0
      go_upto_region 12 with fail
      rw [HXX.out]
      clear HXX
      go_wp2_with fail
      refine (HSM1.out X4).mono ?_
      rintro e q1 ⟨rfl, hq⟩
      rw [hq]
      clear hq q1
      obtain ⟨p0, p1, p2, p3, p4, p5⟩ := elder_cells ((HB1.out.block v1.heap.size (Array.getElem?_eq_some_iff.1 HHX1.out).1).trans HHX1.out)
      obtain ⟨r0, r1, r2, r3, r4, r5⟩ := elder_cells ((HB2.out.block v2.heap.size (Array.getElem?_eq_some_iff.1 HHX2.out).1).trans HHX2.out)
      have HSA := hid (sameElder_calls R1.2.t R1.2.g0 R1.2.g1 R1.2.nx R1.2.free R1.2.es fa1 ea1 fa2 ea2 fc1 ec1 fc2 ec2 X4 (by omega) (by omega) (HI1.out.below HB1.out).nums (HI2.out.below HB2.out).nums (HI1.out.below HB1.out).rows (HI2.out.below HB2.out).rows)
      go_wp2_with fail
      refine HSA.out.mono ?_
      rintro e y1 ⟨rfl, hb⟩
      replace HB1 := hid (HB1.out.trans (hb.mono HB1.out.size))
      replace HB2 := hid (HB2.out.trans (hb.mono HB2.out.size))
      replace HB3 := hid (HB3.out.trans (hb.mono HB3.out.size))
      replace HB4 := hid (HB4.out.trans (hb.mono HB4.out.size))
      replace HT := hid (HT.out.below hb)
      clear hb HSA p0 p1 p2 p3 p4 p5 r0 r1 r2 r3 r4 r5
      go_wp2_with fail
      refine (HSM2.out y1).mono ?_
      rintro e q1 ⟨rfl, hq⟩
      rw [hq]
      clear hq q1
      obtain ⟨p0, p1, p2, p3, p4, _⟩ := five_cells ((HB3.out.block v3.heap.size (Array.getElem?_eq_some_iff.1 HHX3.out).1).trans HHX3.out)
      obtain ⟨r0, r1, r2, r3, r4, _⟩ := five_cells ((HB4.out.block v4.heap.size (Array.getElem?_eq_some_iff.1 HHX4.out).1).trans HHX4.out)
      have HSA := hid (sameNewer_calls R2.2.t R2.2.g0 R2.2.g1 R2.2.nx R2.2.es ea3 ea4 ec3 ec4 y1 (by omega) (HI3.out.below HB3.out).rows (HI4.out.below HB4.out).rows)
      go_wp2_with fail
      refine HSA.out.mono ?_
      rintro e y2 ⟨rfl, hb⟩
      replace HB1 := hid (HB1.out.trans (hb.mono HB1.out.size))
      replace HB2 := hid (HB2.out.trans (hb.mono HB2.out.size))
      replace HB3 := hid (HB3.out.trans (hb.mono HB3.out.size))
      replace HB4 := hid (HB4.out.trans (hb.mono HB4.out.size))
      replace HT := hid (HT.out.below hb)
      clear hb HSA p0 p1 p2 p3 p4 r0 r1 r2 r3 r4
      clear HI1 HI2 HI3 HI4 HHX1 HHX2 HHX3 HHX4 HB1 HB2 HB3 HB4 HSM1 HSM2 HRR1 HRR2
      go_upto_region 14 with fail
      have c0 := HAT.out y2 HT.out
      obtain ⟨R3, hR3⟩ : ∃ R, rdT x = R := ⟨_, rfl⟩
      have hsm3 := rdT_small x
      have HRR3 := hid hR3
      rw [hR3] at hsm3
      clear hR3
      have HOF := hid (tapeOf_calls x (by omega) y2)
      unfold TapeOP at HOF
      rw [HRR3.out] at HOF
      go_wp2_with fail
      refine HOF.out.mono ?_
      rintro e v5 ⟨fa5, ea5, ta5, fc5, ec5, tc5, rfl, hi, ht, hb, _, _⟩
      obtain ⟨X5, hX⟩ : ∃ X, v5.alloc (.cells (tapeC R3.2.1.t R3.2.1.g0 R3.2.1.g1 R3.2.1.nx (.slice fa5 R3.2.1.free.length fc5) (.slice ea5 R3.2.1.es.length ec5) (.slice ta5 R3.2.2.length tc5)) 29) = X := ⟨_, rfl⟩
      have hbX : Below v5.heap.size v5 X5 := by rw [← hX]; exact (Below.refl _ _).alloc (Nat.le_refl _) _
      have hhX : X5.heap[v5.heap.size]? = some (.cells (tapeC R3.2.1.t R3.2.1.g0 R3.2.1.g1 R3.2.1.nx (.slice fa5 R3.2.1.free.length fc5) (.slice ea5 R3.2.1.es.length ec5) (.slice ta5 R3.2.2.length tc5)) 29) := by rw [← hX]; exact heap_alloc_new _ _
      have hbc : Below y2.heap.size y2 X5 := hb.trans (hbX.mono hb.size)
      obtain ⟨ta5', tc5', hv5, _, htk, _, _⟩ := ht.tks
      cases hv5
      have HTK5 := hid (htk.below hbX)
      clear htk
      replace HT := hid (HT.out.below hbc)
      have HI5 := hid (hi.below hbX)
      have HHX5 := hid hhX
      have HB5 : Hid (Below X5.heap.size X5 X5) := Below.refl _ _
      obtain ⟨ev3, hev⟩ : ∃ ev, errV R3.1 = ev := ⟨_, rfl⟩
      rw [hev]
      have HSM3 : Hid (∀ wx, Calls Tryz.prog 10 #[ev3, .int .i64 R3.1] wx fun e w' => e = .returned (.bool true) ∧ w' = wx) := fun wx => by rw [← hev]; exact same_seven hsm3.1 wx
      clear hev
      have HXX := hid hX
      clear hX hbX hhX hbc hb hi HOF c0 ht
      go_upto_region 15 with fail
      rw [HXX.out]
      clear HXX
      have c0 := HAT.out X5 HT.out
      have HOF := hid (tapeRead_calls x hxl X5)
      rw [HRR3.out] at HOF
      go_wp2_with fail
      refine HOF.out.mono ?_
      rintro e v6 ⟨fa6, ea6, ta6, fc6, ec6, tc6, rfl, hi, ht, hb⟩
      obtain ⟨X6, hX⟩ : ∃ X, v6.alloc (.cells (tapeC R3.2.1.t R3.2.1.g0 R3.2.1.g1 R3.2.1.nx (.slice fa6 R3.2.1.free.length fc6) (.slice ea6 R3.2.1.es.length ec6) (.slice ta6 R3.2.2.length tc6)) 29) = X := ⟨_, rfl⟩
      have hbX : Below v6.heap.size v6 X6 := by rw [← hX]; exact (Below.refl _ _).alloc (Nat.le_refl _) _
      have hhX : X6.heap[v6.heap.size]? = some (.cells (tapeC R3.2.1.t R3.2.1.g0 R3.2.1.g1 R3.2.1.nx (.slice fa6 R3.2.1.free.length fc6) (.slice ea6 R3.2.1.es.length ec6) (.slice ta6 R3.2.2.length tc6)) 29) := by rw [← hX]; exact heap_alloc_new _ _
      have hbc : Below X5.heap.size X5 X6 := hb.trans (hbX.mono hb.size)
      have HTK6 := hid (ht.below hbX)
      replace HB5 := hid (HB5.out.trans (hbc.mono HB5.out.size))
      replace HT := hid (HT.out.below hbc)
      have HI6 := hid (hi.below hbX)
      have HHX6 := hid hhX
      have HB6 : Hid (Below X6.heap.size X6 X6) := Below.refl _ _
      have HXX := hid hX
      clear hX hbX hhX hbc hb hi HOF c0 ht
      go_upto_region 16 with fail
      rw [HXX.out]
      clear HXX
      have c0 := HAT.out X6 HT.out
      obtain ⟨R4, hR4⟩ : ∃ R, rdR x = R := ⟨_, rfl⟩
      have hsm4 := rdR_small x
      have HRR4 := hid hR4
      rw [hR4] at hsm4
      clear hR4
      have HOF := hid (reelOf_calls x (by omega) X6)
      unfold ReelOP at HOF
      rw [HRR4.out] at HOF
      go_wp2_with fail
      refine HOF.out.mono ?_
      rintro e v7 ⟨ea7, ta7, ec7, tc7, rfl, hi, ht, hb, _⟩
      obtain ⟨X7, hX⟩ : ∃ X, v7.alloc (.cells (reelC R4.2.1.t R4.2.1.g0 R4.2.1.g1 R4.2.1.nx (.slice ea7 R4.2.1.es.length ec7) (.slice ta7 R4.2.2.length tc7)) 35) = X := ⟨_, rfl⟩
      have hbX : Below v7.heap.size v7 X7 := by rw [← hX]; exact (Below.refl _ _).alloc (Nat.le_refl _) _
      have hhX : X7.heap[v7.heap.size]? = some (.cells (reelC R4.2.1.t R4.2.1.g0 R4.2.1.g1 R4.2.1.nx (.slice ea7 R4.2.1.es.length ec7) (.slice ta7 R4.2.2.length tc7)) 35) := by rw [← hX]; exact heap_alloc_new _ _
      have hbc : Below X6.heap.size X6 X7 := hb.trans (hbX.mono hb.size)
      obtain ⟨ta7', tc7', hv7, _, htk, _, _⟩ := ht.tks
      cases hv7
      have HTK7 := hid (htk.below hbX)
      clear htk
      replace HB5 := hid (HB5.out.trans (hbc.mono HB5.out.size))
      replace HB6 := hid (HB6.out.trans (hbc.mono HB6.out.size))
      replace HT := hid (HT.out.below hbc)
      have HI7 := hid (hi.below hbX)
      have HHX7 := hid hhX
      have HB7 : Hid (Below X7.heap.size X7 X7) := Below.refl _ _
      obtain ⟨ev4, hev⟩ : ∃ ev, errV R4.1 = ev := ⟨_, rfl⟩
      rw [hev]
      have HSM4 : Hid (∀ wx, Calls Tryz.prog 10 #[ev4, .int .i64 R4.1] wx fun e w' => e = .returned (.bool true) ∧ w' = wx) := fun wx => by rw [← hev]; exact same_seven hsm4.1 wx
      clear hev
      have HXX := hid hX
      clear hX hbX hhX hbc hb hi HOF c0 ht
      go_upto_region 17 with fail
      rw [HXX.out]
      clear HXX
      have c0 := HAT.out X7 HT.out
      have HOF := hid (reelRead_calls x hxl X7)
      rw [HRR4.out] at HOF
      go_wp2_with fail
      refine HOF.out.mono ?_
      rintro e v8 ⟨ea8, ta8, ec8, tc8, rfl, hi, ht, hb⟩
      obtain ⟨X8, hX⟩ : ∃ X, v8.alloc (.cells (reelC R4.2.1.t R4.2.1.g0 R4.2.1.g1 R4.2.1.nx (.slice ea8 R4.2.1.es.length ec8) (.slice ta8 R4.2.2.length tc8)) 35) = X := ⟨_, rfl⟩
      have hbX : Below v8.heap.size v8 X8 := by rw [← hX]; exact (Below.refl _ _).alloc (Nat.le_refl _) _
      have hhX : X8.heap[v8.heap.size]? = some (.cells (reelC R4.2.1.t R4.2.1.g0 R4.2.1.g1 R4.2.1.nx (.slice ea8 R4.2.1.es.length ec8) (.slice ta8 R4.2.2.length tc8)) 35) := by rw [← hX]; exact heap_alloc_new _ _
      have hbc : Below X7.heap.size X7 X8 := hb.trans (hbX.mono hb.size)
      have HTK8 := hid (ht.below hbX)
      replace HB5 := hid (HB5.out.trans (hbc.mono HB5.out.size))
      replace HB6 := hid (HB6.out.trans (hbc.mono HB6.out.size))
      replace HB7 := hid (HB7.out.trans (hbc.mono HB7.out.size))
      replace HT := hid (HT.out.below hbc)
      have HI8 := hid (hi.below hbX)
      have HHX8 := hid hhX
      have HB8 : Hid (Below X8.heap.size X8 X8) := Below.refl _ _
      have HXX := hid hX
      clear hX hbX hhX hbc hb hi HOF c0 ht
      go_upto_region 18 with fail
      rw [HXX.out]
      clear HXX
      go_wp2_with fail
      refine (HSM3.out X8).mono ?_
      rintro e q1 ⟨rfl, hq⟩
      rw [hq]
      clear hq q1
      obtain ⟨p0, p1, p2, p3, p4, p5, p6⟩ := tape_cells ((HB5.out.block v5.heap.size (Array.getElem?_eq_some_iff.1 HHX5.out).1).trans HHX5.out)
      obtain ⟨r0, r1, r2, r3, r4, r5, r6⟩ := tape_cells ((HB6.out.block v6.heap.size (Array.getElem?_eq_some_iff.1 HHX6.out).1).trans HHX6.out)
      have HSA := hid (sameTape_calls R3.2.1 R3.2.2 fa5 ea5 ta5 fa6 ea6 ta6 fc5 ec5 tc5 fc6 ec6 tc6 X8 (by omega) (by omega) (HI5.out.below HB5.out).nums (HI6.out.below HB6.out).nums (HI5.out.below HB5.out).rows (HI6.out.below HB6.out).rows hsm3.2.2.2.2 hsm3.2.2.2.1 (HTK5.out.below HB5.out) (HTK6.out.below HB6.out))
      go_wp2_with fail
      refine HSA.out.mono ?_
      rintro e y3 ⟨rfl, hb⟩
      replace HB5 := hid (HB5.out.trans (hb.mono HB5.out.size))
      replace HB6 := hid (HB6.out.trans (hb.mono HB6.out.size))
      replace HB7 := hid (HB7.out.trans (hb.mono HB7.out.size))
      replace HB8 := hid (HB8.out.trans (hb.mono HB8.out.size))
      replace HT := hid (HT.out.below hb)
      clear hb HSA p0 p1 p2 p3 p4 p5 p6 r0 r1 r2 r3 r4 r5 r6
      go_wp2_with fail
      refine (HSM4.out y3).mono ?_
      rintro e q1 ⟨rfl, hq⟩
      rw [hq]
      clear hq q1
      obtain ⟨p0, p1, p2, p3, p4, p5⟩ := reel_cellsS ((HB7.out.block v7.heap.size (Array.getElem?_eq_some_iff.1 HHX7.out).1).trans HHX7.out)
      obtain ⟨r0, r1, r2, r3, r4, r5⟩ := reel_cellsS ((HB8.out.block v8.heap.size (Array.getElem?_eq_some_iff.1 HHX8.out).1).trans HHX8.out)
      have HSA := hid (sameReel_calls R4.2.1 R4.2.2 ea7 ta7 ea8 ta8 ec7 tc7 ec8 tc8 y3 (by omega) (HI7.out.below HB7.out).rows (HI8.out.below HB8.out).rows hsm4.2.2.2 hsm4.2.2.1 (HTK7.out.below HB7.out) (HTK8.out.below HB8.out))
      go_wp2_with fail
      refine HSA.out.mono ?_
      rintro e y4 ⟨rfl, hb⟩
      replace HB5 := hid (HB5.out.trans (hb.mono HB5.out.size))
      replace HB6 := hid (HB6.out.trans (hb.mono HB6.out.size))
      replace HB7 := hid (HB7.out.trans (hb.mono HB7.out.size))
      replace HB8 := hid (HB8.out.trans (hb.mono HB8.out.size))
      replace HT := hid (HT.out.below hb)
      clear hb HSA p0 p1 p2 p3 p4 p5 r0 r1 r2 r3 r4 r5
      clear HI5 HI6 HI7 HI8 HHX5 HHX6 HHX7 HHX8 HB5 HB6 HB7 HB8 HSM3 HSM4 HRR3 HRR4 HTK5 HTK6 HTK7 HTK8
      go_wp2
      go_roundw
      case rel => exact ⟨k + 1, by omega, by go_num, HT⟩
      case measure => simp [intOf]; omega
    · have hltz : ¬ (k : Int) < 2 := by omega
      have HF : Hid (Below w.heap.size w wr) := HBV.out.trans (HT.out.1.mono HBV.out.size)
      clear HT
      go_wp2
      go_ret
      exact ⟨rfl, HF.out⟩
end Go.Proofs.YtcbalhicaipmlaaGreat
