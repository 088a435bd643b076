/- The reference's game: what is wrong with it: the first walk over all. -/
import Derived.Test.YtcbalhicaipmlaaGreatRRefEA
import Derived.Test.YtcbalhicaipmlaaGreatRRefC4
namespace Go.Proofs.YtcbalhicaipmlaaGreat
open Go.RowKit Go.Maps
theorem placeR_false {es : List (List Int)} {i : Nat} (h : ∀ k, k < i → sameR (rec es k) (rec es i) = false) : placeR es i = false := by
  unfold placeR
  rw [List.any_eq_false]
  intro k hk
  rw [h k (by simpa using hk)]
  simp
theorem placeR_true {es : List (List Int)} {i k : Nat} (hk : k < i) (h : sameR (rec es k) (rec es i) = true) : placeR es i = true := by
  unfold placeR
  rw [List.any_eq_true]
  exact ⟨k, by simpa using hk, h⟩
theorem oneAtR_one {nw : Bool} {s : St} {i : Nat} (h : 0 < oneR nw s.t (rec s.es i)) : oneAtR nw s i = oneR nw s.t (rec s.es i) := by unfold oneAtR; rw [if_pos h]
theorem oneAtR_order {nw : Bool} {s : St} {i : Nat} (h : oneR nw s.t (rec s.es i) ≤ 0) (g : orderR s i = true) : oneAtR nw s i = 3 := by unfold oneAtR; rw [if_neg (Int.not_lt.2 h), if_pos g]
theorem oneAtR_place {nw : Bool} {s : St} {i : Nat} (h : oneR nw s.t (rec s.es i) ≤ 0) (g : orderR s i = false) (p : placeR s.es i = true) : oneAtR nw s i = 3 := by unfold oneAtR; rw [if_neg (Int.not_lt.2 h), g, if_neg (by decide), if_pos p]
theorem oneAtR_zero {nw : Bool} {s : St} {i : Nat} (h : oneR nw s.t (rec s.es i) ≤ 0) (g : orderR s i = false) (p : placeR s.es i = false) : oneAtR nw s i = 0 := by unfold oneAtR; rw [if_neg (Int.not_lt.2 h), g, if_neg (by decide), p, if_neg (by decide)]
theorem tailR_one {nw : Bool} {s : St} {k : Nat} (hk : k < s.es.length) (hz : ∀ i, i < k → oneAtR nw s i = 0) (h : 0 < oneAtR nw s k) : tailR nw s = oneAtR nw s k := by
  have e : firstR nw s = (oneAtR nw s k).toNat := firstE_some (f := fun i => (oneAtR nw s i).toNat) hk (fun i hi => by show (oneAtR nw s i).toNat = 0; rw [hz i hi]; rfl) (by show (oneAtR nw s k).toNat ≠ 0; omega)
  unfold tailR
  rw [e, if_neg (by omega)]
  omega
set_option maxRecDepth 100000 in
set_option maxHeartbeats 16000000 in
theorem fault_rest (p : Nat) (nw : Bool) (s : St) (ua fa : Option Addr) (uc fc : Nat) (bv : Value) (w : World) (h : FG w p nw s ua fa uc fc bv) (hh : headR nw s = false) (hm : manyR s = false) :
    Calls Tryz.prog 35 #[.pointer (some ⟨p, 0, none⟩)] w fun e w' => e = .returned (.int .i64 (tailR nw s)) ∧ Below w.heap.size w w' := by
  have HF := hid h
  have hlt := h.lt
  obtain ⟨c0, c1, c2, c3, c4, c5, c6⟩ := h.seven
  have HC0 := hid c0
  have hr := topZ_bd nw
  have hwr := top_wrap nw
  clear h
  simp only [headR, Bool.or_eq_false_iff] at hh
  obtain ⟨h1, h2, h3, h4, h5, h6, h7, h8⟩ := hh
  simp only [manyR, Bool.or_eq_false_iff] at hm
  obtain ⟨m1, m2⟩ := hm
  have hle : s.es.length ≤ 20 := by have := of_decide_eq_false m1; omega
  have hfl : s.free.length ≤ 200 := by have := of_decide_eq_false m2; omega
  have hn1 : 1 ≤ s.nx := by have := of_decide_eq_false h3; omega
  have hn2 : s.nx ≤ 2001 := by have := of_decide_eq_false h4; omega
  go_enter Tryz.func35, Tryz.ntmps35
  go_wp2_with fail
  refine (bounds_calls p nw _ HC0.out).mono ?_
  rintro e w1 ⟨rfl, rfl⟩
  clear c0
  go_wp2_with fail
  clear c1 c2 c3 c4 c5 c6 h1 h2 h3 h4 h5 h6 h7 h8 m1 m2 hr hwr HC0
  go_loopw [5] (fun i wr => ∃ k : Nat, k ≤ s.es.length ∧ i = .int .i64 k ∧ Hid (∀ i, i < k → oneAtR nw s i = 0) ∧ Hid (Below w1.heap.size w1 wr)) (fun i _ => s.es.length - (intOf i).toNat)
  case atStart => exact ⟨0, by omega, rfl, fun i hi => by omega, Below.refl _ _⟩
  case round =>
    obtain ⟨k, hk, rfl, HZ, HB⟩ := hrel
    obtain ⟨c0, c1, _, _, c4, c5, c6⟩ := (HF.out.below HB.out).seven
    by_cases hkl : k < s.es.length
    · have hkz : (k : Int) < (s.es.length : Int) := by omega
      obtain ⟨b, o, rfl, hc⟩ := (HF.out.below HB.out).ur.at hkl
      have HOF := hid (oneFault_calls p nw s.t (rec s.es k) wr c0 c1 (Nat.lt_of_lt_of_le hlt HB.out.size))
      have HU : Hid (∀ W, Below w1.heap.size w1 W → ∀ i, i < s.es.length → ∀ j, j < 11 → W.cell? ⟨b, o + i * 11 + j, none⟩ = some (.int .i64 (fld (rec s.es i) j))) := fun W hb i hi j hj => by
        obtain ⟨b', o', e, hc'⟩ := (HF.out.below hb).ur.at hi
        cases e
        exact hc' j hj
      have HSV : Hid (∀ W, Below w1.heap.size w1 W → W.cell? ⟨p, 4, none⟩ = some (.int .i64 s.nx) ∧ W.cell? ⟨p, 6, none⟩ = some (.slice (some ⟨b, o, none⟩) s.es.length uc)) := fun W hb => ⟨(HF.out.below hb).seven.2.2.2.2.1, (HF.out.below hb).seven.2.2.2.2.2.2⟩
      have HRE : Hid (∀ i, oneAtR nw s i = if 0 < oneR nw s.t (rec s.es i) then oneR nw s.t (rec s.es i) else if orderR s i = true then 3 else if placeR s.es i = true then 3 else 0) := fun i => rfl
      have x0 : wr.cell? ⟨b, o + k * 11, none⟩ = some (.int .i64 (fld (rec s.es k) 0)) := hc 0 (by omega)
      have x1 := hc 1 (by omega)
      have x2 := hc 2 (by omega)
      have x3 := hc 3 (by omega)
      have x4 := hc 4 (by omega)
      have x5 := hc 5 (by omega)
      have x6 := hc 6 (by omega)
      have x7 := hc 7 (by omega)
      have x8 := hc 8 (by omega)
      have x9 := hc 9 (by omega)
      have x10 := hc 10 (by omega)
      have HK1 := hid (tailR_one (nw := nw) hkl HZ.out)
      have HA1 := hid (oneAtR_one (nw := nw) (s := s) (i := k))
      have HA2 := hid (oneAtR_order (nw := nw) (s := s) (i := k))
      have HA3 := hid (oneAtR_place (nw := nw) (s := s) (i := k))
      have HA4 := hid (oneAtR_zero (nw := nw) (s := s) (i := k))
      have hob := oneR_bd nw s.t (rec s.es k)
      clear hc c0 c1 c4 c5
      generalize hru : rec s.es k = u at x0 x1 x2 x3 x4 x5 x6 x7 x8 x9 x10 HOF HA1 HA2 HA3 HA4 hob
      have HRU := hid hru
      clear hru
      generalize hof : oneR nw s.t u = f at HOF HA1 HA2 HA3 HA4 hob
      clear hof
      go_wp2_with fail
      refine HOF.out.mono ?_
      clear HOF x0 x1 x2 x3 x4 x5 x6 x7 x8 x9 x10 c6
      rintro e w2 ⟨rfl, hb2⟩
      have HB2 : Hid (Below w1.heap.size w1 w2) := HB.out.trans (hb2.mono HB.out.size)
      clear hb2
      by_cases hf : 0 < f
      · have HE := hid ((HK1.out (by rw [HA1.out hf]; exact hf)).trans (HA1.out hf))
        go_wp2
        go_ret
        exact ⟨retI HE.out.symm, HB2.out⟩
      have hf : f ≤ 0 := Int.not_lt.1 hf
      obtain ⟨c4, c6⟩ := HSV.out w2 HB2.out
      have y0 : w2.cell? ⟨b, o + k * 11, none⟩ = some (.int .i64 (fld u 0)) := by rw [← HRU.out]; exact HU.out w2 HB2.out k hkl 0 (by omega)
      cases hor : orderR s k with
      | true =>
        have HE := hid ((HK1.out (by rw [HA2.out hf hor]; omega)).trans (HA2.out hf hor))
        unfold orderR at hor
        rw [HRU.out] at hor
        by_cases g1 : s.nx ≤ fld u 0
        · have d1 : decide (s.nx ≤ fld u 0) = true := decide_eq_true g1
          clear hor
          go_wp2_with fail
          go_quiet (fail)
          go_wp2
          go_ret
          exact ⟨retI HE.out.symm, below_drewN HB2.out _⟩
        · have d1 : decide (s.nx ≤ fld u 0) = false := decide_eq_false g1
          rw [d1, Bool.false_or, Bool.and_eq_true] at hor
          obtain ⟨g2, g3⟩ := hor
          have hk0 : 0 < k := by have := of_decide_eq_true g2; omega
          have hkm : ((k : Int) - 1).toNat = k - 1 := by omega
          have hkw : IntKind.i64.wrap ((k : Int) - 1) = (k : Int) - 1 := IntWalk.i64_in _ (by omega)
          have hk1 : (0 : Int) ≤ (k : Int) - 1 := by omega
          have hk2 : (k : Int) - 1 < (s.es.length : Int) := by omega
          have z0 : w2.cell? ⟨b, o + (k - 1) * 11, none⟩ = some (.int .i64 (fld (rec s.es (k - 1)) 0)) := HU.out w2 HB2.out (k - 1) (by omega) 0 (by omega)
          go_wp2_with fail
          go_quiet (fail)
          go_wp2
          go_ret
          exact ⟨retI HE.out.symm, below_drewN HB2.out _⟩
      | false =>
        have HOR := hid hor
        unfold orderR at hor
        rw [HRU.out, Bool.or_eq_false_iff] at hor
        obtain ⟨d1, d2⟩ := hor
        have HV : Hid (∃ v, v = fld (rec s.es (k - 1)) 0 ∧ (decide (0 < (k : Int)) && decide (fld u 0 ≤ v)) = false) := ⟨_, rfl, d2⟩
        clear d2
        go_wp2_with fail
        go_cut [151] (fun r wx => r = .bool false ∧ Hid (∃ n, wx = w2.drewN n))
        case first =>
          obtain ⟨v, hv, d2⟩ := HV.out
          by_cases hk0 : 0 < k
          · have g2 : decide (0 < k) = true := decide_eq_true hk0
            rw [decide_eq_true (show 0 < (k : Int) by omega), Bool.true_and] at d2
            have hkm : ((k : Int) - 1).toNat = k - 1 := by omega
            have hkw : IntKind.i64.wrap ((k : Int) - 1) = (k : Int) - 1 := IntWalk.i64_in _ (by omega)
            have hk1 : (0 : Int) ≤ (k : Int) - 1 := by omega
            have hk2 : (k : Int) - 1 < (s.es.length : Int) := by omega
            have z0 : w2.cell? ⟨b, o + (k - 1) * 11, none⟩ = some (.int .i64 v) := by rw [hv]; exact HU.out w2 HB2.out (k - 1) (by omega) 0 (by omega)
            clear hv
            go_quiet (fail)
            go_wp2
            go_meet
            exact ⟨rfl, _, rfl⟩
          · have g2 : decide (0 < k) = false := decide_eq_false hk0
            clear hv d2
            go_quiet (fail)
            go_wp2
            go_meet
            exact ⟨rfl, _, rfl⟩
        case rest =>
          obtain ⟨rfl, HX⟩ := hcut
          have HB3 : Hid (Below w1.heap.size w1 wc) := by
            obtain ⟨nq, rfl⟩ := HX.out
            exact below_drewN HB2.out nq
          clear HX HV d1 c4 c6 y0 HA1 HA2
          go_wp2_with fail
          go_loopw [7] (fun j wq => ∃ m : Nat, m ≤ k ∧ j = .int .i64 m ∧ Hid (∀ i, i < m → sameR (rec s.es i) u = false) ∧ Hid (Below w1.heap.size w1 wq)) (fun j _ => k - (intOf j).toNat)
          case atStart => exact ⟨0, by omega, rfl, fun i hi => by omega, HB3⟩
          case round =>
            obtain ⟨m, hmk, rfl, HS, HBq⟩ := hrel
            by_cases hml : m < k
            · have hmz : (m : Int) < (k : Int) := by omega
              have hms : (m : Int) < (s.es.length : Int) := by omega
              obtain ⟨_, c6⟩ := HSV.out wr HBq.out
              have y3 : wr.cell? ⟨b, o + k * 11 + 3, none⟩ = some (.int .i64 (fld u 3)) := by rw [← HRU.out]; exact HU.out wr HBq.out k hkl 3 (by omega)
              have y4 : wr.cell? ⟨b, o + k * 11 + 4, none⟩ = some (.int .i64 (fld u 4)) := by rw [← HRU.out]; exact HU.out wr HBq.out k hkl 4 (by omega)
              have z3 := HU.out wr HBq.out m (by omega) 3 (by omega)
              have z4 := HU.out wr HBq.out m (by omega) 4 (by omega)
              have HPT := hid (placeR_true (es := s.es) (i := k) (k := m) hml)
              rw [HRU.out] at HPT
              have HNX : Hid (∀ v, rec s.es m = v → (∀ v', v' = v → sameR v' u = false) → ∀ i, i < m + 1 → sameR (rec s.es i) u = false) := fun v hv h i hi => by
                by_cases e : i = m
                · rw [e]; exact h _ hv
                · exact HS.out i (by omega)
              generalize hrv : rec s.es m = v at z3 z4 HPT
              have HNX : Hid ((∀ v', v' = v → sameR v' u = false) → ∀ i, i < m + 1 → sameR (rec s.es i) u = false) := HNX.out v hrv
              clear hrv
              cases e3 : fld v 3 == fld u 3 with
              | false =>
                have HN : Hid (∀ v', v' = v → sameR v' u = false) := fun v' h => by subst h; unfold sameR; rw [e3]; rfl
                go_wp2_with fail
                go_quiet (fail)
                go_wp2
                go_roundw
                case rel => exact ⟨m + 1, by omega, by go_num, HNX.out HN.out, below_drewN HBq.out _⟩
                case measure => simp [intOf]; omega
              | true =>
                cases e4 : fld v 4 == fld u 4 with
                | false =>
                  have HN : Hid (∀ v', v' = v → sameR v' u = false) := fun v' h => by subst h; unfold sameR; rw [e4, Bool.and_false]
                  go_wp2_with fail
                  go_quiet (fail)
                  go_wp2
                  go_roundw
                  case rel => exact ⟨m + 1, by omega, by go_num, HNX.out HN.out, below_drewN HBq.out _⟩
                  case measure => simp [intOf]; omega
                | true =>
                  have HE : Hid (tailR nw s = 3) := by
                    have h3 : sameR v u = true := by unfold sameR; rw [e3, e4]; rfl
                    have h4 := HA3.out hf HOR.out (HPT.out h3)
                    exact (HK1.out (by rw [h4]; omega)).trans h4
                  go_wp2_with fail
                  go_quiet (fail)
                  go_wp2
                  go_ret
                  exact ⟨retI HE.out.symm, below_drewN HBq.out _⟩
            · have hmz : ¬ (m : Int) < (k : Int) := by omega
              have hmk2 : m = k := by omega
              subst hmk2
              have HN : Hid (∀ i, i < m + 1 → oneAtR nw s i = 0) := fun i hi => by
                by_cases e : i = m
                · rw [e]
                  refine HA4.out hf HOR.out (placeR_false fun j hj => ?_)
                  rw [HRU.out]
                  exact HS.out j hj
                · exact HZ.out i (by omega)
              go_wp2
              go_roundw
              case rel => exact ⟨m + 1, by omega, by go_num, HN, HBq⟩
              case measure => simp [intOf]; omega
    · have hkz : ¬ (k : Int) < (s.es.length : Int) := by omega
      have HF1 : Hid (firstR nw s = 0) := firstE_none fun i hi => by show (oneAtR nw s i).toNat = 0; rw [HZ.out i (by omega)]; rfl
      clear HZ
      go_wp2_with fail
      clear c0 c1 c4 c5 c6
      go_loopw [8] (fun i wr => ∃ k : Nat, k ≤ s.es.length ∧ i = .int .i64 k ∧ Hid (∀ i, i < k → aimBadR nw s.es i = false) ∧ Hid (Below w1.heap.size w1 wr)) (fun i _ => s.es.length - (intOf i).toNat)
      case atStart => exact ⟨0, by omega, rfl, fun i hi => by omega, HB⟩
      case round =>
        clear HB
        obtain ⟨k, hk, rfl, HZ, HB⟩ := hrel
        obtain ⟨c0, c1, _, _, c4, c5, c6⟩ := (HF.out.below HB.out).seven
        by_cases hkl : k < s.es.length
        · have hkz2 : (k : Int) < (s.es.length : Int) := by omega
          obtain ⟨b, o, rfl, hc⟩ := (HF.out.below HB.out).ur.at hkl
          have KU : Hid (∀ i, i < s.es.length → ∀ j, j < 11 → ∀ W, Below wr.heap.size wr W → W.cell? ⟨b, o + i * 11 + j, none⟩ = some (.int .i64 (fld (rec s.es i) j))) := fun i hi j hj W hb => by
            obtain ⟨b', o', e, hc'⟩ := ((HF.out.below HB.out).below hb).ur.at hi
            cases e
            exact hc' j hj
          have HNX : Hid (aimBadR nw s.es k = false → ∀ i, i < k + 1 → aimBadR nw s.es i = false) := fun h i hi => by
            by_cases e : i = k
            · rw [e]; exact h
            · exact HZ.out i (by omega)
          have HNB : Hid (aimBadR nw s.es k = true → tailR nw s = 3) := fun h => by
            unfold tailR
            rw [if_pos HF1.out, if_neg (fun g => by have := g k hkl; rw [h] at this; cases this)]
          have HAB : Hid (aimBadR nw s.es k = (decide (fld (rec s.es k) 9 ≠ 0) && (decide (whoZ (fld (rec s.es k) 9) s.es < 0) || mayZ nw (rec s.es k) (rec s.es (whoZ (fld (rec s.es k) 9) s.es).toNat) != fld (rec s.es k) 6))) := rfl
          have HWC := hid (who_calls p uc (some ⟨b, o, none⟩) s.es (fld (rec s.es k) 9) wr (by omega) c6 (HF.out.below HB.out).ur)
          have hwb := whoZ_bd (fld (rec s.es k) 9) s.es
          have x9 : wr.cell? ⟨b, o + k * 11 + 9, none⟩ = some (.int .i64 (fld (rec s.es k) 9)) := hc 9 (by omega)
          have KUk := hid (KU.out k hkl)
          clear hc c1 c4 c5
          generalize hru : rec s.es k = u at x9 KUk HAB HWC hwb
          clear hru
          by_cases hu9 : fld u 9 = 0
          · have b9 : (fld u 9 == 0) = true := by simpa using hu9
            have HN := hid (HNX.out (by rw [HAB.out, hu9]; rfl))
            clear hu9
            go_wp2
            go_roundw
            case rel => exact ⟨k + 1, by omega, by go_num, HN, HB⟩
            case measure => simp [intOf]; omega
          have b9 : (fld u 9 == 0) = false := by simpa using hu9
          rw [decide_eq_true hu9, Bool.true_and] at HAB
          generalize hgm : whoZ (fld u 9) s.es = m at HAB HWC hwb
          clear hgm hu9
          obtain ⟨hm0, hm1⟩ := hwb
          go_wp2_with fail
          refine HWC.out.mono ?_
          clear HWC
          rintro e w2 ⟨rfl, rfl⟩
          clear x9
          by_cases hmn : m < 0
          · have dm : decide (m < 0) = true := decide_eq_true hmn
            have HE := hid (HNB.out (by rw [HAB.out, dm]; rfl))
            go_wp2_with fail
            go_quiet (fail)
            go_wp2
            go_ret
            exact ⟨retI HE.out.symm, below_drewN HB.out _⟩
          have dm : decide (m < 0) = false := decide_eq_false hmn
          obtain ⟨j, rfl⟩ : ∃ j : Nat, m = j := ⟨m.toNat, by omega⟩
          have htn : ((j : Int)).toNat = j := by omega
          rw [dm, Bool.false_or, htn] at HAB
          have hjl : j < s.es.length := by omega
          have KTj := hid (KU.out j hjl)
          generalize hrt : rec s.es j = tt at KTj HAB
          clear hrt
          have S6 : ∀ w', Below w2.heap.size w2 w' → w'.cell? ⟨p, 6, none⟩ = some (.slice (some ⟨b, o, none⟩) s.es.length uc) := fun w' h => ((HF.out.below HB.out).below h).seven.2.2.2.2.2.2
          have S0 : ∀ w', Below w2.heap.size w2 w' → w'.cell? ⟨p, 0, none⟩ = some (.bool nw) := fun w' h => ((HF.out.below HB.out).below h).seven.1
          have hlt2 : p < w2.heap.size := Nat.lt_of_lt_of_le hlt HB.out.size
          have a0 : ∀ w', Below w2.heap.size w2 w' → w'.cell? ⟨b, o + k * 11, none⟩ = some (.int .i64 (fld u 0)) := KUk.out 0 (by omega)
          have a1 := KUk.out 1 (by omega)
          have a2 := KUk.out 2 (by omega)
          have a3 := KUk.out 3 (by omega)
          have a4 := KUk.out 4 (by omega)
          have a5 := KUk.out 5 (by omega)
          have a6 := KUk.out 6 (by omega)
          have a7 := KUk.out 7 (by omega)
          have a8 := KUk.out 8 (by omega)
          have a9 := KUk.out 9 (by omega)
          have a10 := KUk.out 10 (by omega)
          have b0 : ∀ w', Below w2.heap.size w2 w' → w'.cell? ⟨b, o + j * 11, none⟩ = some (.int .i64 (fld tt 0)) := KTj.out 0 (by omega)
          have b1 := KTj.out 1 (by omega)
          have b2 := KTj.out 2 (by omega)
          have b3 := KTj.out 3 (by omega)
          have b4 := KTj.out 4 (by omega)
          have b5 := KTj.out 5 (by omega)
          have b6 := KTj.out 6 (by omega)
          have b7 := KTj.out 7 (by omega)
          have b8 := KTj.out 8 (by omega)
          have bb9 := KTj.out 9 (by omega)
          have b10 := KTj.out 10 (by omega)
          clear KU KUk KTj c0 c6
          go_wp2_with fail
          go_cut [249] (fun r wx => r = .bool (mayZ nw u tt != fld u 6) ∧ Hid (Below w2.heap.size w2 wx))
          case first =>
            go_region_held3 (fun w' => Below w2.heap.size w2 w') (first | with_reducible exact (Below.refl _ _).drew | with_reducible exact HB2.out)
              (first
                | (go_at_call 72; refine (may_calls p nw u tt _ (S0 _ (by assumption)) (Nat.lt_of_lt_of_le hlt2 (Below.size (by assumption)))).mono ?_; rintro e w3 ⟨rfl, hb2⟩; have HB2 : Hid (Below w2.heap.size w2 w3) := Below.trans (by assumption) (hb2.mono (Below.size (by assumption))); clear hb2))
            all_goals
              go_wp2
              go_meet
              exact ⟨rfl, HB2⟩
          case rest =>
            obtain ⟨rfl, HBc⟩ := hcut
            have HB3 : Hid (Below w1.heap.size w1 wc) := HB.out.trans (HBc.out.mono HB.out.size)
            clear a0 a1 a2 a3 a4 a5 a6 a7 a8 a9 a10 b0 b1 b2 b3 b4 b5 b6 b7 b8 bb9 b10 S6 S0 HBc
            cases hmd : (mayZ nw u tt != fld u 6) with
            | true =>
              have HE := hid (HNB.out (HAB.out.trans hmd))
              clear hmd
              go_wp2
              go_ret
              exact ⟨retI HE.out.symm, HB3.out⟩
            | false =>
              have HN := hid (HNX.out (HAB.out.trans hmd))
              clear hmd
              go_wp2
              go_roundw
              case rel => exact ⟨k + 1, by omega, by go_num, HN, HB3⟩
              case measure => simp [intOf]; omega
        · have hkz2 : ¬ (k : Int) < (s.es.length : Int) := by omega
          have HF2 : Hid (tailR nw s = if nw = true then 0 else freeR s) := by
            show _ = _
            unfold tailR
            rw [if_pos HF1.out, if_pos (fun i hi => HZ.out i (by omega))]
          clear HZ
          cases nw with
          | true =>
            have HE : Hid (tailR true s = 0) := HF2.out
            go_wp2
            go_ret
            exact ⟨retI HE.out.symm, HB.out⟩
          | false =>
            have HE : Hid (tailR false s = freeR s) := HF2.out
            clear HF2 HF1
            go_wp2_with fail
            clear c0 c1 c4 c5 c6
            go_loopw [10] (fun i wr => ∃ k : Nat, k ≤ (s.nx - 1).toNat ∧ i = .int .i64 ((k : Int) + 1) ∧ Hid (∀ i, i < k → cntR s ((i : Int) + 1) = 1) ∧ Hid (Below w1.heap.size w1 wr)) (fun i _ => s.nx.toNat - (intOf i).toNat)
            case atStart => exact ⟨0, by omega, rfl, fun i hi => by omega, HB⟩
            case round =>
              clear HB
              obtain ⟨k, hk, rfl, HZ, HB⟩ := hrel
              obtain ⟨c0, c1, _, _, c4, c5, c6⟩ := (HF.out.below HB.out).seven
              by_cases hkl : k < (s.nx - 1).toNat
              · have hkz3 : (k : Int) + 1 < s.nx := by omega
                have HNX : Hid (cntR s ((k : Int) + 1) = 1 → ∀ i, i < k + 1 → cntR s ((i : Int) + 1) = 1) := fun h i hi => by
                  by_cases e : i = k
                  · rw [e]; exact h
                  · exact HZ.out i (by omega)
                have HNB : Hid (cntR s ((k : Int) + 1) ≠ 1 → tailR false s = 3) := fun h => by
                  rw [HE.out]
                  unfold freeR
                  rw [if_neg (fun g => h (g k hkl))]
                have HCR : Hid (cntR s ((k : Int) + 1) = (s.free.count ((k : Int) + 1) : Int) + (if 0 ≤ whoZ ((k : Int) + 1) s.es then 1 else 0)) := rfl
                have HWC := hid (who_calls p uc ua s.es ((k : Int) + 1) wr (by omega) c6 (HF.out.below HB.out).ur)
                have HFR := hid (HF.out.below HB.out).fr
                have hidb : 1 ≤ (k : Int) + 1 ∧ (k : Int) + 1 ≤ 2001 := by omega
                have hiw : IntKind.i64.wrap ((k : Int) + 1 + 1) = (k : Int) + 1 + 1 := IntWalk.i64_in _ ⟨by omega, by omega⟩
                have HMS : Hid (s.nx.toNat - (k + 1 + 1) < s.nx.toNat - (k + 1)) := by show _ < _; omega
                have HKN : Hid (k + 1 ≤ (s.nx - 1).toNat) := hkl
                clear c0 c1 c6 hkl
                generalize hid0 : (k : Int) + 1 = id at hkz3 HNX HNB HCR HWC hidb hiw ⊢
                have HID := hid hid0
                clear hid0
                go_wp2_with fail
                go_loop [11, 12] (fun n q => ∃ m : Nat, m ≤ s.free.length ∧ q = .int .i64 m ∧ n = .int .i64 ((s.free.take m).count id : Nat)) (fun _ q => s.free.length - (intOf q).toNat)
                case atStart => exact ⟨0, by omega, rfl, by rw [List.take_zero]; rfl⟩
                case round =>
                  obtain ⟨m, hm, rfl, rfl⟩ := hrel
                  have hcb : (s.free.take m).count id ≤ m := Nat.le_trans List.count_le_length (by rw [List.length_take]; omega)
                  by_cases hml : m < s.free.length
                  · have hmz : (m : Int) < (s.free.length : Int) := by omega
                    obtain ⟨b, o, rfl, hc⟩ := HFR.out.at hml
                    have HT : Hid ((s.free.take (m + 1)).count id = (s.free.take m).count id + (if fld s.free m = id then 1 else 0)) := by
                      show _ = _
                      rw [nums_take hml, List.count_append, List.count_singleton]
                      by_cases e : fld s.free m = id
                      · simp [e]
                      · simp [e]
                    generalize fld s.free m = v at hc HT
                    generalize (s.free.take m).count id = cn at hcb HT ⊢
                    by_cases hv : v = id
                    · have bv1 : (v == id) = true := by simpa using hv
                      rw [if_pos hv] at HT
                      clear hv
                      go_wp2
                      go_round
                      case rel => exact ⟨m + 1, by omega, by go_num, by rw [HT.out]; go_num⟩
                      case measure => simp [intOf]; omega
                    · have bv1 : (v == id) = false := by simpa using hv
                      rw [if_neg hv] at HT
                      clear hv
                      go_wp2
                      go_round
                      case rel => exact ⟨m + 1, by omega, by go_num, by rw [HT.out]; rfl⟩
                      case measure => simp [intOf]; omega
                  · have hmz : ¬ (m : Int) < (s.free.length : Int) := by omega
                    have hme : m = s.free.length := by omega
                    subst hme
                    rw [List.take_length] at hcb ⊢
                    generalize s.free.count id = cn at hcb HCR ⊢
                    generalize whoZ id s.es = v at HCR HWC
                    go_wp2_with fail
                    refine HWC.out.mono ?_
                    clear HWC
                    rintro e w2 ⟨rfl, rfl⟩
                    by_cases hv : 0 ≤ v
                    · rw [if_pos hv] at HCR
                      have dv : decide (0 ≤ v) = true := decide_eq_true hv
                      by_cases h1 : (cn : Int) + 1 = 1
                      · have b1 : ((cn : Int) + 1 != 1) = false := by simpa using h1
                        have HN := hid (HNX.out (HCR.out.trans h1))
                        have c00 : cn = 0 := by omega
                        subst c00
                        clear h1
                        go_wp2
                        go_roundw
                        case rel => exact ⟨k + 1, HKN.out, by rw [← HID.out]; go_num, HN, HB⟩
                        case measure => have := HID.out; simp [intOf]; omega
                      · have b1 : ((cn : Int) + 1 != 1) = true := by simpa using h1
                        have HE3 := hid (HNB.out (fun e => h1 (HCR.out.symm.trans e)))
                        have c00 : (cn != 0) = true := by simp; omega
                        clear h1
                        go_wp2
                        go_ret
                        exact ⟨retI HE3.out.symm, HB.out⟩
                    · rw [if_neg hv] at HCR
                      have dv : decide (0 ≤ v) = false := decide_eq_false hv
                      rw [Int.add_zero] at HCR
                      by_cases h1 : cn = 1
                      · subst h1
                        have HN := hid (HNX.out HCR.out)
                        go_wp2
                        go_roundw
                        case rel => exact ⟨k + 1, HKN.out, by rw [← HID.out]; go_num, HN, HB⟩
                        case measure => have := HID.out; simp [intOf]; omega
                      · have b1 : ((cn : Int) != 1) = true := by simp; omega
                        have HE3 := hid (HNB.out (fun e => h1 (by have := HCR.out.symm.trans e; omega)))
                        have c00 : (cn != 1) = true := by simpa using h1
                        clear h1
                        go_wp2
                        go_ret
                        exact ⟨retI HE3.out.symm, HB.out⟩
              · have hkz3 : ¬ (k : Int) + 1 < s.nx := by omega
                have HEE : Hid (tailR false s = if (s.free.length : Int) + (s.es.length : Int) = s.nx - 1 then 0 else 3) := by
                  show _ = _
                  rw [HE.out]
                  unfold freeR
                  rw [if_pos (fun i hi => HZ.out i (by omega))]
                have w5 : IntKind.i64.wrap (s.nx - 1) = s.nx - 1 := IntWalk.i64_in _ ⟨by omega, by omega⟩
                have w6 : IntKind.i64.wrap ((s.free.length : Int) + (s.es.length : Int)) = (s.free.length : Int) + (s.es.length : Int) := IntWalk.i64_in _ ⟨by omega, by omega⟩
                clear HZ c0 c1
                by_cases hs : (s.free.length : Int) + (s.es.length : Int) = s.nx - 1
                · have b1 : ((s.free.length : Int) + (s.es.length : Int) != s.nx - 1) = false := by simpa using hs
                  rw [if_pos hs] at HEE
                  clear hs
                  go_wp2_with fail
                  go_quiet (fail)
                  go_wp2
                  go_ret
                  exact ⟨retI HEE.out.symm, below_drewN HB.out _⟩
                · have b1 : ((s.free.length : Int) + (s.es.length : Int) != s.nx - 1) = true := by simpa using hs
                  rw [if_neg hs] at HEE
                  clear hs
                  go_wp2_with fail
                  go_quiet (fail)
                  go_wp2
                  go_ret
                  exact ⟨retI HEE.out.symm, below_drewN HB.out _⟩
set_option maxRecDepth 100000 in
set_option maxHeartbeats 8000000 in
theorem fault_many (p : Nat) (nw : Bool) (s : St) (ua fa : Option Addr) (uc fc : Nat) (bv : Value) (w : World) (h : FG w p nw s ua fa uc fc bv) (hh : headR nw s = false) (hm : manyR s = true) :
    Calls Tryz.prog 35 #[.pointer (some ⟨p, 0, none⟩)] w fun e w' => e = .returned (.int .i64 2) ∧ Below w.heap.size w w' := by
  obtain ⟨c0, c1, c2, c3, c4, c5, c6⟩ := h.seven
  have HC0 := hid c0
  have hr := topZ_bd nw
  have hwr := top_wrap nw
  clear h
  simp only [headR, Bool.or_eq_false_iff] at hh
  obtain ⟨h1, h2, h3, h4, h5, h6, h7, h8⟩ := hh
  unfold manyR at hm
  go_enter Tryz.func35, Tryz.ntmps35
  go_wp2_with fail
  refine (bounds_calls p nw _ HC0.out).mono ?_
  rintro e w1 ⟨rfl, rfl⟩
  clear c0
  rcases tf (decide (20 < (s.es.length : Int))) trivial with m1 | ⟨m1, _⟩
  · have m2 : 20 < s.es.length := by have := of_decide_eq_true m1; omega
    clear hm
    go_wp2
    go_ret
    exact ⟨rfl, Below.refl _ _⟩
  · rw [m1, Bool.false_or] at hm
    have m2 : ¬ 20 < s.es.length := by have := of_decide_eq_false m1; omega
    have m3 : 200 < s.free.length := by have := of_decide_eq_true hm; omega
    go_wp2
    go_ret
    exact ⟨rfl, Below.refl _ _⟩
theorem fault_calls (base p : Nat) (nw : Bool) (s : St) (w : World) (h : GrE base w p nw s) :
    Calls Tryz.prog 35 #[.pointer (some ⟨p, 0, none⟩)] w fun e w' => e = .returned (.int .i64 (faultR nw s)) ∧ Below w.heap.size w w' := by
  obtain ⟨ua, fa, uc, fc, bv, h⟩ := h.fg
  unfold faultR
  cases hh : headR nw s
  · cases hm : manyR s
    · exact fault_rest p nw s ua fa uc fc bv w h hh hm
    · exact fault_many p nw s ua fa uc fc bv w h hh hm
  · exact fault_head p nw s ua fa uc fc bv w h hh
end Go.Proofs.YtcbalhicaipmlaaGreat
