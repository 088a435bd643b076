/- A tick under way: all strike at once. -/
import Derived.Test.YtgiieepfhohmhabTOkA
import Derived.Test.YtgiieepfhohmhabTAr
namespace Go.Proofs.Ytgiieepfhohmhab
open Go.RowKit Go.Maps
theorem row_recs {base : Nat} {w : World} {g n c : Nat} {es : List (List Int)} (h : Row base w (.slice (some ⟨g, 0, none⟩) n c) es) : Recs w (some ⟨g, 0, none⟩) 10 es :=
  Or.inr ⟨g, 0, rfl, fun i hi j hj => by rw [Nat.zero_add]; exact (h.ten hi).1 j hj⟩
theorem below_drewd {a w : World} (h : Below a.drew.heap.size a.drew w) : Below a.heap.size a w := ⟨h.os, h.tape, h.output, h.size, h.block⟩
theorem min_if (a : Int) : min a 40 = if 40 < a then 40 else a := by
  by_cases h : 40 < a
  · rw [if_pos h]; omega
  · rw [if_neg h]; omega
theorem grown_set {w w' : World} {p : Nat} (h : w.grownBy w' (some p)) (j : Nat) (v : Value) : w.grownBy (w'.setCell ⟨p, j, none⟩ v) (some p) :=
  ⟨h.os, h.tape, h.output, by rw [World.size_setCell]; exact h.size, fun k hk hne => (heap_setCell_other w' ⟨p, j, none⟩ k v (fun e => hne (by rw [show k = p from e]))).trans (h.block k hk hne)⟩
theorem harm_bd (k : Int) : 0 ≤ Pl.eHarm k ∧ Pl.eHarm k ≤ 3 := by
  unfold Pl.eHarm
  split
  · omega
  · split
    · omega
    · split <;> omega
set_option maxRecDepth 100000 in
set_option maxHeartbeats 8000000 in
theorem strike_calls (base p : Nat) (s : St) (was : Int → Int) (w : World) (hok : StrikeOk s) (h : GmE base w p s was) :
    Calls Try.prog 42 #[.pointer (some ⟨p, 0, none⟩)] w fun e w' => e = .returned (.tuple #[]) ∧ GmE base w' p (strikeS s was) was ∧ Below base w w' := by
  obtain ⟨ev, fv, bv, B, hGm⟩ := h
  have hlt := hGm.lt
  have hbp := hGm.bp
  obtain ⟨ea, c, rfl, hcap, hrecs, hg0⟩ := hGm.er.open
  have HE0 := hid hg0
  have HOK := hid hok
  have hlen := hok.len
  have d5 := hGm.cell 5
  have HG0 : Hid (Gm base w p (.slice ea s.es.length c) fv bv B (strikeK s was 0) was) := strikeK_start hGm
  clear hGm hrecs hg0 hok
  go_enter Try.func42, Try.ntmps42
  go_wp2
  clear d5
  go_loopw [11] (fun i wr => ∃ k : Nat, k ≤ s.es.length ∧ i = .int .i64 k ∧ Hid (Gm base wr p (.slice ea s.es.length c) fv bv B (strikeK s was k) was) ∧ Hid (Below base w wr)) (fun i _ => s.es.length - (intOf i).toNat)
  case atStart => exact ⟨0, Nat.zero_le _, rfl, HG0, Below.refl _ _⟩
  case round =>
    clear HG0
    obtain ⟨k, hk, rfl, HGk, HBk⟩ := hrel
    by_cases hkl : k < s.es.length
    · have hkz : (k : Int) < (s.es.length : Int) := by omega
      have HTK := hid (turnK HOK.out was hkl)
      generalize hurtK s.es was k (rec s.es k) = y at HTK
      obtain ⟨g, rfl, hbg, hgl⟩ := HE0.out (by omega)
      obtain ⟨hc, hf⟩ := HGk.out.er.ten (i := k) (by rw [strikeK_len]; exact hkl)
      rw [HTK.out.y0] at hc
      have l0 : wr.cell? ⟨g, k * 10, none⟩ = some (.int .i64 (fld y 0)) := hc 0 (by omega)
      have l1 := hc 1 (by omega)
      have l2 := hc 2 (by omega)
      have l3 := hc 3 (by omega)
      have l4 := hc 4 (by omega)
      have l5 := hc 5 (by omega)
      have l6 := hc 6 (by omega)
      have l7 := hc 7 (by omega)
      have l8 := hc 8 (by omega)
      have l9 := hc 9 (by omega)
      clear hc hf
      obtain ⟨V, hV⟩ : ∃ V, wr.alloc (.cells (entC y) 63) = V := ⟨_, rfl⟩
      have hbV : Below wr.heap.size wr V := by rw [← hV]; exact (Below.refl _ _).alloc (Nat.le_refl _) _
      have hVh : V.heap[wr.heap.size]? = some (.cells (entC y) 63) := by rw [← hV]; exact heap_alloc_new _ _
      have hsV : wr.heap.size < V.heap.size := (Array.getElem?_eq_some_iff.1 hVh).1
      have hpr := HGk.out.lt
      have hgr : g < wr.heap.size := World.block_lt_of_cell? wr _ l1
      have hGV := HGk.out.below hbV
      have HBV : Hid (Below base w V) := HBk.out.trans (hbV.mono (by omega))
      have HGV := hid hGV
      have HVH := hid hVh
      go_wp2_with fail
      clear l0 l1 l2 l3 l4 l5 l6 l7 l8 l9 hV HGk HBk hbV
      have d5 := hGV.cell 5
      have d6 := hGV.cell 6
      have SK : ∀ n, (Instr.lookup 80 (.map (some B)) (.int .i64 (fld y 0)) false).run Try.prog (V.drewN n) = .ok (.int .i64 (was (fld y 0))) (V.drewN n) := fun n => (hGV.ct.drewN n).look HTK.out.wf
      have x0 : V.cell? ⟨wr.heap.size, 0, none⟩ = some (.int .i64 (fld y 0)) := cell_of_row V _ 0 _ _ _ hVh
      have x9 : V.cell? ⟨wr.heap.size, 9, none⟩ = some (.int .i64 (fld y 9)) := cell_of_row V _ 9 _ _ _ hVh
      clear hGV hVh
      cases hw0 : (was (fld y 0) == 0) with
      | true =>
        have HID : Hid (strikeK s was (k + 1) = strikeK s was k) := HTK.out.idle (Or.inl (by simpa using hw0))
        go_quiet (fail)
        clear d5 d6 SK x0 x9 hw0
        go_wp2
        go_roundw
        case rel => exact ⟨k + 1, by omega, by go_num, by show Gm _ _ _ _ _ _ _ _ _; rw [HID.out]; exact HGV.out.below (below_drewN (Below.refl _ _) _), below_drewN HBV.out _⟩
        case measure => simp [intOf]; omega
      | false =>
        cases h9 : (fld y 9 == 0) with
        | true =>
          have HID : Hid (strikeK s was (k + 1) = strikeK s was k) := HTK.out.idle (Or.inr (by simpa using h9))
          go_quiet (fail)
          clear d5 d6 SK x0 x9 hw0 h9
          go_wp2
          go_roundw
          case rel => exact ⟨k + 1, by omega, by go_num, by show Gm _ _ _ _ _ _ _ _ _; rw [HID.out]; exact HGV.out.below (below_drewN (Below.refl _ _) _), below_drewN HBV.out _⟩
          case measure => simp [intOf]; omega
        | false =>
          obtain ⟨m, t, hA⟩ := aimK HOK.out was hkl HTK.out (by simpa using hw0) (by simpa using h9)
          have HA := hid hA
          have hml := hA.lt
          clear hA
          go_quiet (fail)
          clear d5 d6 SK x0 x9 hw0 h9
          go_wp2_with fail
          obtain ⟨U, hU⟩ : ∃ U, V.drewN nq = U := ⟨_, rfl⟩
          rw [hU]
          have hGU : Gm base U p (.slice (some ⟨g, 0, none⟩) s.es.length c) fv bv B (strikeK s was k) was := by rw [← hU]; exact HGV.out.below (below_drewN (Below.refl _ _) _)
          have hUh : U.heap[wr.heap.size]? = some (.cells (entC y) 63) := by rw [← hU]; exact HVH.out
          have HBU : Hid (Below base w U) := by rw [← hU]; exact below_drewN HBV.out _
          have hsU : wr.heap.size < U.heap.size := (Array.getElem?_eq_some_iff.1 hUh).1
          have HGU := hid hGU
          have HUH := hid hUh
          clear hU HGV HVH HBV hsV
          have hRU : Recs U (some ⟨g, 0, none⟩) 10 (strikeK s was k).es := row_recs hGU.er
          have HI : Hid (∀ W', Below U.heap.size U W' → Calls Try.prog 37 #[.slice (some ⟨g, 0, none⟩) s.es.length c, .int .i64 (fld y 9)] W' fun e w' => e = .returned (.int .i64 m) ∧ Below W'.heap.size W' w') := fun W' hW' => by
            have h := index_calls (fld y 9) (strikeK s was k).es (some ⟨g, 0, none⟩) c W' (by rw [strikeK_len]; omega) (hRU.below hW')
            rw [strikeK_len, HA.out.idx] at h
            exact h
          have hmz : (m : Int) < (s.es.length : Int) := by omega
          have hmz0 : (0 : Int) ≤ (m : Int) := by omega
          have hpU : p < U.heap.size := by omega
          have S5 : ∀ w', Below U.heap.size U w' → w'.cell? ⟨p, 5, none⟩ = some (.slice (some ⟨g, 0, none⟩) s.es.length c) := fun w' h => (h.cell (p := ⟨p, 5, none⟩) hpU).trans (hGU.cell 5)
          have KX : ∀ j w', Below U.heap.size U w' → w'.cell? ⟨wr.heap.size, j, none⟩ = (entC y)[j]? := fun j w' h => cell_of_row w' _ j _ _ _ ((h.block _ hsU).trans hUh)
          have x9 : ∀ w', Below U.heap.size U w' → w'.cell? ⟨wr.heap.size, 9, none⟩ = some (.int .i64 (fld y 9)) := KX 9
          have HRU := hid hRU
          clear hRU hGU hUh
          go_cut [4] (fun r wx => r = .pointer (some ⟨g, m * 10, none⟩) ∧ Hid (Below U.heap.size U wx))
          case first =>
            clear KX
            go_region_held3 (fun w' => Below U.heap.size U w') (first | with_reducible exact HB2.out | with_reducible exact (Below.refl _ _).drew)
              (first
                | (go_at_call 37; refine (HI.out _ (by assumption)).mono ?_; rintro e w2 ⟨rfl, hb2⟩; have HB2 : Hid (Below U.heap.size U w2) := Below.trans (by assumption) (hb2.mono (Below.size (by assumption))); clear hb2))
            all_goals
              go_wp2
              go_meet
              exact ⟨rfl, HB2⟩
          case rest =>
            obtain ⟨rfl, HBc⟩ := hcut
            obtain ⟨X, hX⟩ : ∃ X, X = wc := ⟨_, rfl⟩
            subst hX
            clear S5 x9 HI
            have x0 : ∀ w', Below X.heap.size X w' → w'.cell? ⟨wr.heap.size, 0, none⟩ = some (.int .i64 (fld y 0)) := fun w' h => KX 0 w' (HBc.out.trans (h.mono HBc.out.size))
            have x1 : ∀ w', Below X.heap.size X w' → w'.cell? ⟨wr.heap.size, 1, none⟩ = some (.int .i64 (fld y 1)) := fun w' h => KX 1 w' (HBc.out.trans (h.mono HBc.out.size))
            have x2 : ∀ w', Below X.heap.size X w' → w'.cell? ⟨wr.heap.size, 2, none⟩ = some (.int .i64 (fld y 2)) := fun w' h => KX 2 w' (HBc.out.trans (h.mono HBc.out.size))
            have x3 : ∀ w', Below X.heap.size X w' → w'.cell? ⟨wr.heap.size, 3, none⟩ = some (.int .i64 (fld y 3)) := fun w' h => KX 3 w' (HBc.out.trans (h.mono HBc.out.size))
            have x4 : ∀ w', Below X.heap.size X w' → w'.cell? ⟨wr.heap.size, 4, none⟩ = some (.int .i64 (fld y 4)) := fun w' h => KX 4 w' (HBc.out.trans (h.mono HBc.out.size))
            have x5 : ∀ w', Below X.heap.size X w' → w'.cell? ⟨wr.heap.size, 5, none⟩ = some (.int .i64 (fld y 5)) := fun w' h => KX 5 w' (HBc.out.trans (h.mono HBc.out.size))
            have x6 : ∀ w', Below X.heap.size X w' → w'.cell? ⟨wr.heap.size, 6, none⟩ = some (.int .i64 (fld y 6)) := fun w' h => KX 6 w' (HBc.out.trans (h.mono HBc.out.size))
            have x7 : ∀ w', Below X.heap.size X w' → w'.cell? ⟨wr.heap.size, 7, none⟩ = some (.int .i64 (fld y 7)) := fun w' h => KX 7 w' (HBc.out.trans (h.mono HBc.out.size))
            have x8 : ∀ w', Below X.heap.size X w' → w'.cell? ⟨wr.heap.size, 8, none⟩ = some (.int .i64 (fld y 8)) := fun w' h => KX 8 w' (HBc.out.trans (h.mono HBc.out.size))
            have x9 : ∀ w', Below X.heap.size X w' → w'.cell? ⟨wr.heap.size, 9, none⟩ = some (.int .i64 (fld y 9)) := fun w' h => KX 9 w' (HBc.out.trans (h.mono HBc.out.size))
            have KZ := (HRU.out.below HBc.out).held (k := m) (by rw [strikeK_len]; exact hml) HA.out.t0
            have z0 : ∀ w', Below X.heap.size X w' → w'.cell? ⟨g, m * 10, none⟩ = some (.int .i64 (fld t 0)) := KZ 0 (by omega)
            have z1 := KZ 1 (by omega)
            have z2 := KZ 2 (by omega)
            have z3 := KZ 3 (by omega)
            have z4 := KZ 4 (by omega)
            have z5 := KZ 5 (by omega)
            have z6 := KZ 6 (by omega)
            have z7 := KZ 7 (by omega)
            have z8 := KZ 8 (by omega)
            have z9 := KZ 9 (by omega)
            have HGc := hid (HGU.out.below HBc.out)
            have HBwX : Hid (Below base w X) := HBU.out.trans (HBc.out.mono (by omega))
            have hpc : p < X.heap.size := HGc.out.lt
            have HWc : Hid (X.heap[wr.heap.size]? = some (.cells (entC y) 63)) := (HBc.out.block _ hsU).trans HUH.out
            clear KX KZ HGU HBU HUH HRU HBc
            go_wp2_with fail
            go_cut [47] (fun r wx => r = .bool (!nearE y t) ∧ Hid (Below X.heap.size X wx))
            case first =>
              go_region_held3 (fun w' => Below X.heap.size X w') (first | with_reducible exact HB3.out | with_reducible exact (Below.refl _ _).drew)
                (first
                  | (go_at_call 59; refine (near_calls y t _ HTK.out.on HA.out.on).mono ?_; rintro e w3 ⟨rfl, hb3⟩; have HB3 : Hid (Below X.heap.size X w3) := Below.trans (by assumption) (hb3.mono (Below.size (by assumption))); clear hb3))
              all_goals
                go_wp2
                go_meet
                exact ⟨rfl, HB3⟩
            case rest =>
              clear x0 x1 x2 x3 x4 x5 x6 x7 x8 x9 z0 z1 z2 z3 z4 z5 z6 z7 z8 z9
              obtain ⟨rfl, HBd⟩ := hcut
              have HGd := hid (HGc.out.below HBd.out)
              have HBwd : Hid (Below base w wc) := HBwX.out.trans (HBd.out.mono (by omega))
              have hWd : wc.heap[wr.heap.size]? = some (.cells (entC y) 63) := (HBd.out.block _ (Array.getElem?_eq_some_iff.1 HWc.out).1).trans HWc.out
              have hpd : p < wc.heap.size := HGd.out.lt
              have HWd := hid hWd
              clear HGc HBwX HWc HBd
              cases hnr : nearE y t with
              | false =>
                have HID : Hid (strikeK s was (k + 1) = strikeK s was k) := HA.out.far hnr
                clear hnr hWd
                go_wp2
                go_roundw
                case rel => exact ⟨k + 1, by omega, by go_num, by show Gm _ _ _ _ _ _ _ _ _; rw [HID.out]; exact HGd.out, HBwd⟩
                case measure => simp [intOf]; omega
              | true =>
                have HNR := hid hnr
                have y6 : wc.cell? ⟨wr.heap.size, 6, none⟩ = some (.int .i64 (fld y 6)) := cell_of_row wc _ 6 _ _ _ hWd
                clear hnr
                have y0 : wc.cell? ⟨wr.heap.size, 0, none⟩ = some (.int .i64 (fld y 0)) := cell_of_row wc _ 0 _ _ _ hWd
                have y1 : wc.cell? ⟨wr.heap.size, 1, none⟩ = some (.int .i64 (fld y 1)) := cell_of_row wc _ 1 _ _ _ hWd
                have y2 : wc.cell? ⟨wr.heap.size, 2, none⟩ = some (.int .i64 (fld y 2)) := cell_of_row wc _ 2 _ _ _ hWd
                have y3 : wc.cell? ⟨wr.heap.size, 3, none⟩ = some (.int .i64 (fld y 3)) := cell_of_row wc _ 3 _ _ _ hWd
                have y4 : wc.cell? ⟨wr.heap.size, 4, none⟩ = some (.int .i64 (fld y 4)) := cell_of_row wc _ 4 _ _ _ hWd
                have y5 : wc.cell? ⟨wr.heap.size, 5, none⟩ = some (.int .i64 (fld y 5)) := cell_of_row wc _ 5 _ _ _ hWd
                have y7 : wc.cell? ⟨wr.heap.size, 7, none⟩ = some (.int .i64 (fld y 7)) := cell_of_row wc _ 7 _ _ _ hWd
                have y8 : wc.cell? ⟨wr.heap.size, 8, none⟩ = some (.int .i64 (fld y 8)) := cell_of_row wc _ 8 _ _ _ hWd
                have y9 : wc.cell? ⟨wr.heap.size, 9, none⟩ = some (.int .i64 (fld y 9)) := cell_of_row wc _ 9 _ _ _ hWd
                obtain ⟨hc, hf⟩ := HGd.out.er.ten (i := m) (by rw [strikeK_len]; exact hml)
                rw [HA.out.t0] at hc
                have c5 := hc 5 (by omega)
                have f5 := hf (m * 10 + 5)
                have hgd : g < wc.heap.size := World.block_lt_of_cell? wc _ c5
                have hrd : wr.heap.size < wc.heap.size := World.block_lt_of_cell? wc _ y0
                obtain ⟨hp0, hp1⟩ := HA.out.hp
                obtain ⟨Y, hY⟩ : ∃ Y, Y = wc := ⟨_, rfl⟩
                subst hY
                clear hc hf hWd
                cases h6 : (fld y 6 == 2) with
                | true =>
                  obtain ⟨hh0, hh1⟩ := harm_bd (fld y 2)
                  have hwr : IntKind.i64.wrap (fld t 5 - Pl.eHarm (fld y 2)) = fld t 5 - Pl.eHarm (fld y 2) := IntWalk.i64_in _ ⟨by omega, by omega⟩
                  have fr := field_rule3
                  go_wp2_with fail
                  go_cut [51] (fun _ wx => Hid (∃ w4, Below Y.heap.size Y w4 ∧ wx = w4.setCell ⟨g, m * 10 + 5, none⟩ (.int .i64 (fld t 5 - Pl.eHarm (fld y 2)))))
                  case first =>
                    go_region_with (first | (go_at_call 50; refine (rule_elder_calls y _).mono ?_; rintro e w4 ⟨rfl, hb4⟩; have HB4 := hid (below_drewd hb4); have m5 := (HB4.out.cell (p := ⟨g, m * 10 + 5, none⟩) hgd).trans c5; have fm5 := (HB4.out.frozen (p := ⟨g, m * 10 + 5, none⟩) hgd).trans f5; clear hb4))
                    all_goals
                      go_wp2
                      go_meet
                      exact ⟨_, HB4.out, rfl⟩
                  case rest =>
                    obtain ⟨w4, hb4, rfl⟩ := hcut.out
                    have hG5 := gm_rput (HGd.out.below hb4) (i := m) (by rw [strikeK_len]; exact hml) (j := 5) (by omega) (fld t 5 - Pl.eHarm (fld y 2))
                    rw [HA.out.t0] at hG5
                    have HG6 := hid (HA.out.fight HNR.out (by simpa using h6) hG5)
                    have HB6 : Hid (Below base w (w4.setCell ⟨g, m * 10 + 5, none⟩ (.int .i64 (fld t 5 - Pl.eHarm (fld y 2))))) := (HBwd.out.trans (hb4.mono (by omega))).setCell (p := ⟨g, m * 10 + 5, none⟩) hbg _
                    clear hcut hG5 hb4 y0 y1 y2 y3 y4 y5 y6 y7 y8 y9 c5 f5 fr hwr
                    generalize w4.setCell ⟨g, m * 10 + 5, none⟩ (.int .i64 (fld t 5 - Pl.eHarm (fld y 2))) = w5 at HG6 HB6 ⊢
                    go_wp2
                    go_roundw
                    case rel => exact ⟨k + 1, by omega, by go_num, HG6, HB6⟩
                    case measure => simp [intOf]; omega
                | false =>
                  obtain ⟨hh0, hh1⟩ := load_nonneg (fld y 2)
                  have hwr : IntKind.i64.wrap (fld t 5 - Pl.eLoad (fld y 2)) = fld t 5 - Pl.eLoad (fld y 2) := IntWalk.i64_in _ ⟨by omega, by omega⟩
                  have fr := field_rule5
                  go_wp2_with fail
                  go_cut [61] (fun _ wx => Hid (∃ w4, Below Y.heap.size Y w4 ∧ wx = w4.setCell ⟨g, m * 10 + 5, none⟩ (.int .i64 (fld t 5 - Pl.eLoad (fld y 2)))))
                  case first =>
                    go_region_with (first | (go_at_call 50; refine (rule_elder_calls y _).mono ?_; rintro e w4 ⟨rfl, hb4⟩; have HB4 := hid (below_drewd hb4); have m5 := (HB4.out.cell (p := ⟨g, m * 10 + 5, none⟩) hgd).trans c5; have fm5 := (HB4.out.frozen (p := ⟨g, m * 10 + 5, none⟩) hgd).trans f5; clear hb4))
                    all_goals
                      go_wp2
                      go_meet
                      exact ⟨_, HB4.out, rfl⟩
                  case rest =>
                    obtain ⟨w4, hb4, rfl⟩ := hcut.out
                    have hn6 : fld y 6 ≠ 2 := by simpa using h6
                    have hG5 := gm_rput (HGd.out.below hb4) (i := m) (by rw [strikeK_len]; exact hml) (j := 5) (by omega) (fld t 5 - Pl.eLoad (fld y 2))
                    rw [HA.out.t0] at hG5
                    have hG6 := HA.out.mine HNR.out hn6 hG5
                    have HB6 : Hid (Below base w (w4.setCell ⟨g, m * 10 + 5, none⟩ (.int .i64 (fld t 5 - Pl.eLoad (fld y 2))))) := (HBwd.out.trans (hb4.mono (by omega))).setCell (p := ⟨g, m * 10 + 5, none⟩) hbg _
                    have hWZ : (w4.setCell ⟨g, m * 10 + 5, none⟩ (.int .i64 (fld t 5 - Pl.eLoad (fld y 2)))).heap[wr.heap.size]? = some (.cells (entC y) 63) := (heap_setCell_other _ ⟨g, m * 10 + 5, none⟩ wr.heap.size _ (fun e => by have : wr.heap.size = g := e; omega)).trans ((hb4.block _ hrd).trans HWd.out)
                    clear hcut hG5 hb4 y0 y1 y2 y3 y4 y5 y6 y7 y8 y9 c5 f5 hwr
                    generalize w4.setCell ⟨g, m * 10 + 5, none⟩ (.int .i64 (fld t 5 - Pl.eLoad (fld y 2))) = Z at hG6 HB6 hWZ ⊢
                    have HG6 := hid hG6
                    have HWZ := hid hWZ
                    have y0 : Z.cell? ⟨wr.heap.size, 0, none⟩ = some (.int .i64 (fld y 0)) := cell_of_row Z _ 0 _ _ _ hWZ
                    have y1 : Z.cell? ⟨wr.heap.size, 1, none⟩ = some (.int .i64 (fld y 1)) := cell_of_row Z _ 1 _ _ _ hWZ
                    have y2 : Z.cell? ⟨wr.heap.size, 2, none⟩ = some (.int .i64 (fld y 2)) := cell_of_row Z _ 2 _ _ _ hWZ
                    have y3 : Z.cell? ⟨wr.heap.size, 3, none⟩ = some (.int .i64 (fld y 3)) := cell_of_row Z _ 3 _ _ _ hWZ
                    have y4 : Z.cell? ⟨wr.heap.size, 4, none⟩ = some (.int .i64 (fld y 4)) := cell_of_row Z _ 4 _ _ _ hWZ
                    have y5 : Z.cell? ⟨wr.heap.size, 5, none⟩ = some (.int .i64 (fld y 5)) := cell_of_row Z _ 5 _ _ _ hWZ
                    have y6 : Z.cell? ⟨wr.heap.size, 6, none⟩ = some (.int .i64 (fld y 6)) := cell_of_row Z _ 6 _ _ _ hWZ
                    have y7 : Z.cell? ⟨wr.heap.size, 7, none⟩ = some (.int .i64 (fld y 7)) := cell_of_row Z _ 7 _ _ _ hWZ
                    have y8 : Z.cell? ⟨wr.heap.size, 8, none⟩ = some (.int .i64 (fld y 8)) := cell_of_row Z _ 8 _ _ _ hWZ
                    have y9 : Z.cell? ⟨wr.heap.size, 9, none⟩ = some (.int .i64 (fld y 9)) := cell_of_row Z _ 9 _ _ _ hWZ
                    have hpZ : p < Z.heap.size := hG6.lt
                    have hrZ : wr.heap.size < Z.heap.size := World.block_lt_of_cell? Z _ y0
                    obtain ⟨hgo0, hgo1⟩ := HA.out.gold
                    obtain ⟨G, hG0⟩ : ∃ G : Int, (fld y 1 = 0 ∧ G = (strikeK s was k).g0) ∨ (fld y 1 = 1 ∧ G = (strikeK s was k).g1) := by
                      rcases HA.out.own with e | e
                      · exact ⟨_, Or.inl ⟨e, rfl⟩⟩
                      · exact ⟨_, Or.inr ⟨e, rfl⟩⟩
                    have hGb : 0 ≤ G ∧ G ≤ 40 := by rcases hG0 with ⟨_, e⟩ | ⟨_, e⟩ <;> rw [e] <;> omega
                    have hob : 0 ≤ fld y 1 ∧ fld y 1 < 2 := by rcases hG0 with ⟨e, _⟩ | ⟨e, _⟩ <;> omega
                    obtain ⟨hGb0, hGb1⟩ := hGb
                    obtain ⟨hob0, hob1⟩ := hob
                    have cg : Z.cell? ⟨p, 1 + (fld y 1).toNat, none⟩ = some (.int .i64 G) := by
                      rcases hG0 with ⟨e, eg⟩ | ⟨e, eg⟩
                      · rw [e, eg]; exact hG6.cell 1
                      · rw [e, eg]; exact hG6.cell 2
                    have fg : Z.frozen? ⟨p, 1 + (fld y 1).toNat, none⟩ = false := hG6.frozen _
                    have HGG := hid hG0
                    have hwa : IntKind.i64.wrap (G + Pl.eLoad (fld y 2)) = G + Pl.eLoad (fld y 2) := IntWalk.i64_in _ ⟨by omega, by omega⟩
                    clear hWZ hG6 hG0 hgo0 hgo1
                    go_wp2_with fail
                    have HFIN : Hid (∀ w7, Below Z.heap.size Z w7 → ∃ k' : Nat, k' ≤ s.es.length ∧ (k : Int) + 1 = k' ∧ Hid (Gm base (w7.setCell ⟨p, 1 + (fld y 1).toNat, none⟩ (.int .i64 (min (G + Pl.eLoad (fld y 2)) 40))) p (.slice (some ⟨g, 0, none⟩) s.es.length c) fv bv B (strikeK s was k') was) ∧ Hid (Below base w (w7.setCell ⟨p, 1 + (fld y 1).toNat, none⟩ (.int .i64 (min (G + Pl.eLoad (fld y 2)) 40))))) := by
                      intro w7 hb7
                      have hG7 := HG6.out.below hb7
                      refine ⟨k + 1, by omega, by omega, ?_, (HB6.out.trans (hb7.mono (by omega))).setCell (p := ⟨p, 1 + (fld y 1).toNat, none⟩) hbp _⟩
                      rcases HGG.out with ⟨e, eg⟩ | ⟨e, eg⟩
                      · have hx := hG7.pset 1 (.int .i64 (min (G + Pl.eLoad (fld y 2)) 40)) (s' := { strikeK s was k with es := (strikeK s was (k + 1)).es, g0 := min ((strikeK s was k).g0 + Pl.eLoad (fld y 2)) 40 }) (by rw [eg]; rfl) hG7.er hG7.fr hG7.br hG7.fb
                        rw [HA.out.gain0 HNR.out hn6 e] at hx
                        rw [e]
                        exact hx
                      · have hx := hG7.pset 2 (.int .i64 (min (G + Pl.eLoad (fld y 2)) 40)) (s' := { strikeK s was k with es := (strikeK s was (k + 1)).es, g1 := min ((strikeK s was k).g1 + Pl.eLoad (fld y 2)) 40 }) (by rw [eg]; rfl) hG7.er hG7.fr hG7.br hG7.fb
                        rw [HA.out.gain1 HNR.out hn6 e] at hx
                        rw [e]
                        exact hx
                    clear HG6 HB6 HGG
                    have X0 : ∀ w', Z.grownBy w' (some p) → w'.cell? ⟨wr.heap.size, 0, none⟩ = some (.int .i64 (fld y 0)) := fun w' h => (grown_cell h hrZ (by omega) 0).trans y0
                    have X1 : ∀ w', Z.grownBy w' (some p) → w'.cell? ⟨wr.heap.size, 1, none⟩ = some (.int .i64 (fld y 1)) := fun w' h => (grown_cell h hrZ (by omega) 1).trans y1
                    have X2 : ∀ w', Z.grownBy w' (some p) → w'.cell? ⟨wr.heap.size, 2, none⟩ = some (.int .i64 (fld y 2)) := fun w' h => (grown_cell h hrZ (by omega) 2).trans y2
                    have X3 : ∀ w', Z.grownBy w' (some p) → w'.cell? ⟨wr.heap.size, 3, none⟩ = some (.int .i64 (fld y 3)) := fun w' h => (grown_cell h hrZ (by omega) 3).trans y3
                    have X4 : ∀ w', Z.grownBy w' (some p) → w'.cell? ⟨wr.heap.size, 4, none⟩ = some (.int .i64 (fld y 4)) := fun w' h => (grown_cell h hrZ (by omega) 4).trans y4
                    have X5 : ∀ w', Z.grownBy w' (some p) → w'.cell? ⟨wr.heap.size, 5, none⟩ = some (.int .i64 (fld y 5)) := fun w' h => (grown_cell h hrZ (by omega) 5).trans y5
                    have X6 : ∀ w', Z.grownBy w' (some p) → w'.cell? ⟨wr.heap.size, 6, none⟩ = some (.int .i64 (fld y 6)) := fun w' h => (grown_cell h hrZ (by omega) 6).trans y6
                    have X7 : ∀ w', Z.grownBy w' (some p) → w'.cell? ⟨wr.heap.size, 7, none⟩ = some (.int .i64 (fld y 7)) := fun w' h => (grown_cell h hrZ (by omega) 7).trans y7
                    have X8 : ∀ w', Z.grownBy w' (some p) → w'.cell? ⟨wr.heap.size, 8, none⟩ = some (.int .i64 (fld y 8)) := fun w' h => (grown_cell h hrZ (by omega) 8).trans y8
                    have X9 : ∀ w', Z.grownBy w' (some p) → w'.cell? ⟨wr.heap.size, 9, none⟩ = some (.int .i64 (fld y 9)) := fun w' h => (grown_cell h hrZ (by omega) 9).trans y9
                    clear y0 y1 y2 y3 y4 y5 y6 y7 y8 y9
                    refine wp_region_noPanic ?_
                    refine wp_region_held_drew (S := fun w' => Z.grownBy w' (some p)) (by kernel_rfl) (grown_drew _ _) (fun hHeld => ?_)
                    refine wpAnyH_take (i := 0) (v := ?_) rfl (by kernel_rfl) (by kernel_rfl) (by kernel_rfl) (fun _ _ _ h => h) (Or.inl ⟨by rfl, ?_⟩) (by assumption) ?_
                    rotate_left
                    · intro w' hSw
                      go_simp
                      all_goals with_reducible rfl
                    simp only [Act.put]
                    refine wpAnyH_take (i := 1) (v := ?_) rfl (by kernel_rfl) (by kernel_rfl) (by kernel_rfl) (fun _ _ _ h => h) (Or.inl ⟨by rfl, ?_⟩) (by assumption) ?_
                    rotate_left
                    · intro w' hSw
                      go_simp
                      all_goals with_reducible rfl
                    simp only [Act.put]
                    refine wpAnyH_take (i := 3) (v := ?_) rfl (by kernel_rfl) (by kernel_rfl) (by kernel_rfl) (fun _ _ _ h => h) (Or.inl ⟨by rfl, ?_⟩) (by assumption) ?_
                    rotate_left
                    · intro w' hSw
                      go_simp
                      all_goals with_reducible rfl
                    simp only [Act.put]
                    refine wpAnyH_take (i := 4) (v := ?_) rfl (by kernel_rfl) (by kernel_rfl) (by kernel_rfl) (fun _ _ _ h => h) (Or.inl ⟨by rfl, ?_⟩) (by assumption) ?_
                    rotate_left
                    · intro w' hSw
                      go_simp
                      all_goals with_reducible rfl
                    simp only [Act.put]
                    refine wpAnyH_take (i := 6) (v := ?_) rfl (by kernel_rfl) (by kernel_rfl) (by kernel_rfl) (fun _ _ _ h => h) (Or.inl ⟨by rfl, ?_⟩) (by assumption) ?_
                    rotate_left
                    · intro w' hSw
                      go_simp
                      all_goals with_reducible rfl
                    simp only [Act.put]
                    refine wpAnyH_take (i := 7) (v := ?_) rfl (by kernel_rfl) (by kernel_rfl) (by kernel_rfl) (fun _ _ _ h => h) (Or.inl ⟨by rfl, ?_⟩) (by assumption) ?_
                    rotate_left
                    · intro w' hSw
                      go_simp
                      all_goals with_reducible rfl
                    simp only [Act.put]
                    refine wpAnyH_take (i := 8) (v := ?_) rfl (by kernel_rfl) (by kernel_rfl) (by kernel_rfl) (fun _ _ _ h => h) (Or.inl ⟨by rfl, ?_⟩) (by assumption) ?_
                    rotate_left
                    · intro w' hSw
                      go_simp
                      all_goals with_reducible rfl
                    simp only [Act.put]
                    refine wpAnyH_take (i := 16) (v := ?_) rfl (by kernel_rfl) (by kernel_rfl) (by kernel_rfl) (fun _ _ _ h => h) (Or.inl ⟨by rfl, ?_⟩) (by assumption) ?_
                    rotate_left
                    · intro w' hSw
                      go_simp
                      all_goals with_reducible rfl
                    simp only [Act.put]
                    refine wpAnyH_take (i := 17) (v := ?_) rfl (by kernel_rfl) (by kernel_rfl) (by kernel_rfl) (fun _ _ _ h => h) (Or.inl ⟨by rfl, ?_⟩) (by assumption) ?_
                    rotate_left
                    · intro w' hSw
                      go_simp
                      all_goals with_reducible rfl
                    simp only [Act.put]
                    refine wpAnyH_take (i := 18) (v := ?_) rfl (by kernel_rfl) (by kernel_rfl) (by kernel_rfl) (fun _ _ _ h => h) (Or.inl ⟨by rfl, ?_⟩) (by assumption) ?_
                    rotate_left
                    · intro w' hSw
                      go_simp
                      all_goals with_reducible rfl
                    simp only [Act.put]
                    refine wpAnyH_take (i := 2) (v := ?_) rfl (by kernel_rfl) (by kernel_rfl) (by kernel_rfl) (fun _ _ _ h => h) (Or.inl ⟨by rfl, ?_⟩) (by assumption) ?_
                    rotate_left
                    · intro w' hSw
                      go_simp
                      all_goals with_reducible rfl
                    simp only [Act.put]
                    refine wpAnyH_take (i := 5) (v := ?_) rfl (by kernel_rfl) (by kernel_rfl) (by kernel_rfl) (fun _ _ _ h => h) (Or.inl ⟨by rfl, ?_⟩) (by assumption) ?_
                    rotate_left
                    · intro w' hSw
                      go_simp
                      all_goals with_reducible rfl
                    simp only [Act.put]
                    refine wpAnyH_take (i := 9) (v := ?_) rfl (by kernel_rfl) (by kernel_rfl) (by kernel_rfl) (fun _ _ _ h => h) (Or.inl ⟨by rfl, ?_⟩) (by assumption) ?_
                    rotate_left
                    · intro w' hSw
                      go_simp
                      all_goals with_reducible rfl
                    simp only [Act.put]
                    refine wpAnyH_take (i := 11) (v := ?_) rfl (by kernel_rfl) (by kernel_rfl) (by kernel_rfl) (fun _ _ _ h => h) (Or.inl ⟨by rfl, ?_⟩) (by assumption) ?_
                    rotate_left
                    · intro w' hSw
                      go_simp
                      all_goals with_reducible rfl
                    simp only [Act.put]
                    refine wpAnyH_ready (rs := [10, 12]) (by kernel_rfl) (by simp) ?_
                    refine AllReadyH.cons rfl (fun K hK => ?_) (AllReadyH.cons rfl (fun K hK => ?_) AllReadyH.nil)
                    · go_simp
                      refine hK.out _ _ (by assumption) (fun hHeld => ?_)
                      clear hK K
                      refine wpAnyH_ready (rs := [12]) (by kernel_rfl) (by simp) ?_
                      refine AllReadyH.cons rfl (fun K hK => ?_) AllReadyH.nil
                      go_simp
                      refine (rule_elder_calls y _).mono ?_
                      rintro e w7 ⟨rfl, hb7⟩
                      have HB7 := hid (below_drewd hb7)
                      have mg := (HB7.out.cell (p := ⟨p, 1 + (fld y 1).toNat, none⟩) hpZ).trans cg
                      have fmg := (HB7.out.frozen (p := ⟨p, 1 + (fld y 1).toNat, none⟩) hpZ).trans fg
                      have hgw7 : Z.grownBy w7 (some p) := ⟨HB7.out.os, HB7.out.tape, HB7.out.output, HB7.out.size, fun k hk _ => HB7.out.block k hk⟩
                      clear hb7 hHeld
                      go_wp2_with fail
                      refine hK.out _ _ hgw7 (fun hHeld => ?_)
                      clear hK K
                      refine wpAnyH_take (i := 13) (v := ?_) rfl (by kernel_rfl) (by kernel_rfl) (by kernel_rfl) (fun _ _ _ h => h) (Or.inl ⟨by rfl, ?_⟩) (by assumption) ?_
                      rotate_left
                      · intro w' hSw
                        go_simp
                        all_goals with_reducible rfl
                      simp only [Act.put]
                      refine wpAnyH_take (i := 14) (v := ?_) rfl (by kernel_rfl) (by kernel_rfl) (by kernel_rfl) (fun _ _ _ h => h) (Or.inl ⟨by rfl, ?_⟩) (by assumption) ?_
                      rotate_left
                      · intro w' hSw
                        go_simp
                        all_goals with_reducible rfl
                      simp only [Act.put]
                      refine wpAnyH_ready (rs := [15]) (by kernel_rfl) (by simp) ?_
                      refine AllReadyH.cons rfl (fun K hK => ?_) AllReadyH.nil
                      go_simp
                      refine hK.out _ _ (by assumption) (fun hHeld => ?_)
                      clear hK K
                      refine wpAnyH_take (i := 19) (v := ?_) rfl (by kernel_rfl) (by kernel_rfl) (by kernel_rfl) (fun _ _ _ h => h) (Or.inl ⟨by rfl, ?_⟩) (by assumption) ?_
                      rotate_left
                      · intro w' hSw
                        go_simp
                        all_goals with_reducible rfl
                      simp only [Act.put]
                      refine wpAnyH_ready (rs := [20]) (by kernel_rfl) (by simp) ?_
                      refine AllReadyH.cons rfl (fun K hK => ?_) AllReadyH.nil
                      go_simp
                      refine hK.out _ _ (grown_set hgw7 _ _) (fun hHeld => ?_)
                      clear hK K
                      refine wpAnyH_done (by kernel_rfl) ?_ _
                      refine NoPanic.normal ?_
                      obtain ⟨k', hk', hke, HG8, HB8⟩ := HFIN.out w7 HB7.out
                      rw [min_if] at HG8 HB8
                      clear cg fg mg fmg hgw7 hHeld X0 X1 X2 X3 X4 X5 X6 X7 X8 X9 fr hwa
                      go_wp2
                      go_roundw
                      case rel => exact ⟨k', hk', by rw [← hke], HG8, HB8⟩
                      case measure => simp [intOf]; omega
                    · go_simp
                      refine (rule_elder_calls y _).mono ?_
                      rintro e w7 ⟨rfl, hb7⟩
                      have HB7 := hid (below_drewd hb7)
                      have mg := (HB7.out.cell (p := ⟨p, 1 + (fld y 1).toNat, none⟩) hpZ).trans cg
                      have fmg := (HB7.out.frozen (p := ⟨p, 1 + (fld y 1).toNat, none⟩) hpZ).trans fg
                      have hgw7 : Z.grownBy w7 (some p) := ⟨HB7.out.os, HB7.out.tape, HB7.out.output, HB7.out.size, fun k hk _ => HB7.out.block k hk⟩
                      clear hb7 hHeld
                      go_wp2_with fail
                      refine hK.out _ _ hgw7 (fun hHeld => ?_)
                      clear hK K
                      refine wpAnyH_take (i := 13) (v := ?_) rfl (by kernel_rfl) (by kernel_rfl) (by kernel_rfl) (fun _ _ _ h => h) (Or.inl ⟨by rfl, ?_⟩) (by assumption) ?_
                      rotate_left
                      · intro w' hSw
                        go_simp
                        all_goals with_reducible rfl
                      simp only [Act.put]
                      refine wpAnyH_ready (rs := [10]) (by kernel_rfl) (by simp) ?_
                      refine AllReadyH.cons rfl (fun K hK => ?_) AllReadyH.nil
                      go_simp
                      refine hK.out _ _ (by assumption) (fun hHeld => ?_)
                      clear hK K
                      refine wpAnyH_take (i := 14) (v := ?_) rfl (by kernel_rfl) (by kernel_rfl) (by kernel_rfl) (fun _ _ _ h => h) (Or.inl ⟨by rfl, ?_⟩) (by assumption) ?_
                      rotate_left
                      · intro w' hSw
                        go_simp
                        all_goals with_reducible rfl
                      simp only [Act.put]
                      refine wpAnyH_ready (rs := [15]) (by kernel_rfl) (by simp) ?_
                      refine AllReadyH.cons rfl (fun K hK => ?_) AllReadyH.nil
                      go_simp
                      refine hK.out _ _ (by assumption) (fun hHeld => ?_)
                      clear hK K
                      refine wpAnyH_take (i := 19) (v := ?_) rfl (by kernel_rfl) (by kernel_rfl) (by kernel_rfl) (fun _ _ _ h => h) (Or.inl ⟨by rfl, ?_⟩) (by assumption) ?_
                      rotate_left
                      · intro w' hSw
                        go_simp
                        all_goals with_reducible rfl
                      simp only [Act.put]
                      refine wpAnyH_ready (rs := [20]) (by kernel_rfl) (by simp) ?_
                      refine AllReadyH.cons rfl (fun K hK => ?_) AllReadyH.nil
                      go_simp
                      refine hK.out _ _ (grown_set hgw7 _ _) (fun hHeld => ?_)
                      clear hK K
                      refine wpAnyH_done (by kernel_rfl) ?_ _
                      refine NoPanic.normal ?_
                      obtain ⟨k', hk', hke, HG8, HB8⟩ := HFIN.out w7 HB7.out
                      rw [min_if] at HG8 HB8
                      clear cg fg mg fmg hgw7 hHeld X0 X1 X2 X3 X4 X5 X6 X7 X8 X9 fr hwa
                      go_wp2
                      go_roundw
                      case rel => exact ⟨k', hk', by rw [← hke], HG8, HB8⟩
                      case measure => simp [intOf]; omega
    · have hkz : ¬ (k : Int) < (s.es.length : Int) := by omega
      have HF : Hid (GmE base wr p (strikeS s was) was) := by
        have h := HGk.out
        have e : k = s.es.length := by omega
        rw [e, strikeK_end] at h
        exact ⟨_, _, _, _, h⟩
      clear HGk
      go_wp2
      go_end0
      exact ⟨rfl, HF.out, HBk.out⟩
end Go.Proofs.Ytgiieepfhohmhab
