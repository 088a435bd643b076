/- Package newer of the program: all strike at once. -/
import Derived.BigQuiet
import Derived.Test.YtmnddahkbmlibaaNsSw
import Derived.Test.YtmnddahkbmlibaaNsSkN
namespace Go.Proofs.Ytmnddahkbmlibaa
open Go.RowKit Go.Maps
theorem min_ifN (a : Int) : min a 1000 = if 1000 < a then 1000 else a := by
  by_cases h : 1000 < a
  · rw [if_pos h]; omega
  · rw [if_neg h]; omega
set_option maxRecDepth 100000 in
set_option maxHeartbeats 8000000 in
theorem strikeN_calls (base p B : Nat) (uv : Value) (s : St) (o : Nat) (old : List Int) (w : World) (hok : StrikeOkN s) (ho : OldN s.es o old) (h : GmN base w p uv B s (whoK s.es s.es.length) o) :
    Calls Try.prog 109 #[.pointer (some ⟨p, 0, none⟩)] w fun e w' => e = .returned (.tuple #[]) ∧ GmN base w' p uv B (strikeSO s old) (whoK s.es s.es.length) o ∧ Below base w w' := by
  have hlt := h.lt
  have hbp := h.bp
  obtain ⟨ea, c, rfl, hcap, hrecs, hg0⟩ := h.er.open
  have HE0 := hid hg0
  have HOK := hid hok
  have HO := hid ho
  have hlen := hok.len
  have hole := ho.le
  have d4 := h.cell 4
  have d6 := h.cell 6
  have HG0 : Hid (GmN base w p (.slice ea s.es.length c) B (strikeN s old 0) (whoK s.es s.es.length) o) := strikeN_start h
  have hoc : (o : Int) ≤ (c : Int) := by omega
  have ho0 : (0 : Int) ≤ (o : Int) := by omega
  have hoc' : o ≤ c := by omega
  clear h hrecs hg0 hok ho
  go_enter Try.func109, Try.ntmps109
  go_wp2_with fail
  go_quiet (fail)
  clear d4 d6
  have HGq := hid (HG0.out.below (below_drewN (Below.refl _ w) nq))
  have HBq : Hid (Below base w (w.drewN nq)) := below_drewN (Below.refl _ w) nq
  clear HG0
  generalize w.drewN nq = wq at HGq HBq ⊢
  go_wp2
  go_loopw [16] (fun i wr => ∃ k : Nat, k ≤ o ∧ i = .int .i64 k ∧ Hid (GmN base wr p (.slice ea s.es.length c) B (strikeN s old k) (whoK s.es s.es.length) o) ∧ Hid (Below base w wr)) (fun i _ => o - (intOf i).toNat)
  case atStart => exact ⟨0, Nat.zero_le _, rfl, HGq, HBq⟩
  case round =>
    clear HGq HBq
    obtain ⟨k, hk, rfl, HGk, HBk⟩ := hrel
    by_cases hko : k < o
    · have hkz : (k : Int) < (o : Int) := by omega
      have hkl : k < s.es.length := by omega
      have hkl' : (k : Int) < (s.es.length : Int) := by omega
      have HTK := hid (turnN_ok HOK.out old hkl)
      have HIS : Hid (isB old (fld (hurtN s.es old k (rec s.es k)) 0) = true) := by
        show _ = _
        rw [hurtN_same _ _ _ _ 0 (by omega) (by omega), HO.out.is k hkl]
        exact decide_eq_true hko
      generalize hurtN s.es old k (rec s.es k) = y at HTK HIS
      obtain ⟨g, rfl, hbg, hgl⟩ := HE0.out (by omega)
      obtain ⟨hc, hf⟩ := HGk.out.er.cells (i := k) (by rw [strikeN_len]; exact hkl)
      rw [HTK.out.y0] at hc
      have l0 : wr.cell? ⟨g, k * 11, none⟩ = some (.int .i64 (fld y 0)) := hc 0 (by omega)
      have l1 := hc 1 (by omega)
      have l2 := hc 2 (by omega)
      have l3 := hc 3 (by omega)
      have l4 := hc 4 (by omega)
      have l5 := hc 5 (by omega)
      have l6 := hc 6 (by omega)
      have l7 := hc 7 (by omega)
      have l8 := hc 8 (by omega)
      have l9 := hc 9 (by omega)
      have l10 := hc 10 (by omega)
      clear hc hf
      obtain ⟨V, hV⟩ : ∃ V, wr.alloc (.cells (unitC y) 110) = V := ⟨_, rfl⟩
      have hbV : Below wr.heap.size wr V := by rw [← hV]; exact (Below.refl _ _).alloc (Nat.le_refl _) _
      have hVh : V.heap[wr.heap.size]? = some (.cells (unitC y) 110) := by rw [← hV]; exact heap_alloc_new _ _
      have hsV : wr.heap.size < V.heap.size := (Array.getElem?_eq_some_iff.1 hVh).1
      have hpr := HGk.out.lt
      have hgr : g < wr.heap.size := World.block_lt_of_cell? wr _ l1
      have hGV := HGk.out.below hbV
      have HBV : Hid (Below base w V) := HBk.out.trans (hbV.mono (by omega))
      have HGV := hid hGV
      have HVH := hid hVh
      have x9 : V.cell? ⟨wr.heap.size, 9, none⟩ = some (.int .i64 (fld y 9)) := cell_of_row V _ 9 _ _ _ hVh
      have HVV := hid hV
      clear hV
      go_upto_region 3 with fail
      rw [HVV.out]
      clear l0 l1 l2 l3 l4 l5 l6 l7 l8 l9 l10 HGk HBk hbV HVV
      cases h9 : (fld y 9 == 0) with
      | true =>
        have HID : Hid (strikeN s old (k + 1) = strikeN s old k) := HTK.out.idle (Or.inr (by simpa using h9))
        clear hGV hVh
        go_wp2
        go_roundw
        case rel => exact ⟨k + 1, by omega, by go_num, by show GmN _ _ _ _ _ _ _ _; rw [HID.out]; exact HGV.out, HBV⟩
        case measure => simp [intOf]; omega
      | false =>
        obtain ⟨m, t, hA⟩ := aimKN HOK.out old hkl HTK.out HIS.out (by simpa using h9)
        have HA := hid hA
        have hml := hA.lt
        have d4 := hGV.cell 4
        have d5 := hGV.cell 5
        have hmz : (m : Int) < (s.es.length : Int) := by omega
        have hmz0 : (0 : Int) ≤ (m : Int) := by omega
        have hidx := hA.idx
        rw [idx_strikeN] at hidx
        have hlook : ∀ n, (Instr.lookup 141 (.map (some B)) (.int .i64 (fld y 9)) false).run Try.prog (V.drewN n) = .ok (.int .i64 m) (V.drewN n) := fun n => by
          have h := (hGV.wh.below (below_drewN (Below.refl _ V) n)).look (fld y 9)
          rw [who_look HOK.out.uniq, hidx, if_pos (by omega)] at h
          have e : ((m : Int)).toNat = m := by omega
          rw [e] at h
          exact h
        clear hA hGV hVh hidx
        go_wp2_with fail
        go_quiet (fail)
        clear d4 d5 hlook x9 h9
        obtain ⟨X, hX⟩ : ∃ X, V.drewN nq = X := ⟨_, rfl⟩
        have hGX : GmN base X p (.slice (some ⟨g, 0, none⟩) s.es.length c) B (strikeN s old k) (whoK s.es s.es.length) o := by rw [← hX]; exact HGV.out.below (below_drewN (Below.refl _ _) _)
        have hXh : X.heap[wr.heap.size]? = some (.cells (unitC y) 110) := by rw [← hX]; exact HVH.out
        have HBwX : Hid (Below base w X) := by rw [← hX]; exact below_drewN HBV.out _
        have hsX : wr.heap.size < X.heap.size := (Array.getElem?_eq_some_iff.1 hXh).1
        rw [hX]
        clear hX HGV HVH HBV hsV
        have KX : ∀ j w', Below X.heap.size X w' → w'.cell? ⟨wr.heap.size, j, none⟩ = (unitC y)[j]? := fun j w' h => cell_of_row w' _ j _ _ _ ((h.block _ hsX).trans hXh)
        have x0 : ∀ w', Below X.heap.size X w' → w'.cell? ⟨wr.heap.size, 0, none⟩ = some (.int .i64 (fld y 0)) := KX 0
        have x1 : ∀ w', Below X.heap.size X w' → w'.cell? ⟨wr.heap.size, 1, none⟩ = some (.int .i64 (fld y 1)) := KX 1
        have x2 : ∀ w', Below X.heap.size X w' → w'.cell? ⟨wr.heap.size, 2, none⟩ = some (.int .i64 (fld y 2)) := KX 2
        have x3 : ∀ w', Below X.heap.size X w' → w'.cell? ⟨wr.heap.size, 3, none⟩ = some (.int .i64 (fld y 3)) := KX 3
        have x4 : ∀ w', Below X.heap.size X w' → w'.cell? ⟨wr.heap.size, 4, none⟩ = some (.int .i64 (fld y 4)) := KX 4
        have x5 : ∀ w', Below X.heap.size X w' → w'.cell? ⟨wr.heap.size, 5, none⟩ = some (.int .i64 (fld y 5)) := KX 5
        have x6 : ∀ w', Below X.heap.size X w' → w'.cell? ⟨wr.heap.size, 6, none⟩ = some (.int .i64 (fld y 6)) := KX 6
        have x7 : ∀ w', Below X.heap.size X w' → w'.cell? ⟨wr.heap.size, 7, none⟩ = some (.int .i64 (fld y 7)) := KX 7
        have x8 : ∀ w', Below X.heap.size X w' → w'.cell? ⟨wr.heap.size, 8, none⟩ = some (.int .i64 (fld y 8)) := KX 8
        have x9 : ∀ w', Below X.heap.size X w' → w'.cell? ⟨wr.heap.size, 9, none⟩ = some (.int .i64 (fld y 9)) := KX 9
        have x10 : ∀ w', Below X.heap.size X w' → w'.cell? ⟨wr.heap.size, 10, none⟩ = some (.int .i64 (fld y 10)) := KX 10
        have hRX : Recs X (some ⟨g, 0, none⟩) 11 (strikeN s old k).es := rowU_recs hGX.er
        have KZ := hRX.heldU (k := m) (by rw [strikeN_len]; exact hml) HA.out.t0
        have z0 : ∀ w', Below X.heap.size X w' → w'.cell? ⟨g, m * 11, none⟩ = some (.int .i64 (fld t 0)) := KZ 0 (by omega)
        have z1 := KZ 1 (by omega)
        have z2 := KZ 2 (by omega)
        have z3 := KZ 3 (by omega)
        have z4 := KZ 4 (by omega)
        have z5 := KZ 5 (by omega)
        have z6 := KZ 6 (by omega)
        have z7 := KZ 7 (by omega)
        have z8 := KZ 8 (by omega)
        have z9 := KZ 9 (by omega)
        have z10 := KZ 10 (by omega)
        have HGc := hid hGX
        have hpc : p < X.heap.size := HGc.out.lt
        have HWc := hid hXh
        clear KX KZ hGX hXh hRX
        go_wp2_with fail
        go_cut [41] (fun r wx => r = .bool (!nearN y t) ∧ Hid (Below X.heap.size X wx))
        case first =>
          go_region_held3 (fun w' => Below X.heap.size X w') (first | with_reducible exact HB3.out | with_reducible exact (Below.refl _ _).drew)
            (first
              | (go_at_call 160; refine (nearN_calls y t _ HTK.out.on HA.out.on).mono ?_; rintro e w3 ⟨rfl, hb3⟩; have HB3 : Hid (Below X.heap.size X w3) := Below.trans (by assumption) (hb3.mono (Below.size (by assumption))); clear hb3))
          all_goals
            go_wp2
            go_meet
            exact ⟨rfl, HB3⟩
        case rest =>
          clear x0 x1 x2 x3 x4 x5 x6 x7 x8 x9 x10 z0 z1 z2 z3 z4 z5 z6 z7 z8 z9 z10
          obtain ⟨rfl, HBd⟩ := hcut
          have HGd := hid (HGc.out.below HBd.out)
          have HBwd : Hid (Below base w wc) := HBwX.out.trans (HBd.out.mono (by omega))
          have hWd : wc.heap[wr.heap.size]? = some (.cells (unitC y) 110) := (HBd.out.block _ (Array.getElem?_eq_some_iff.1 HWc.out).1).trans HWc.out
          have hpd : p < wc.heap.size := HGd.out.lt
          have HWd := hid hWd
          clear HGc HBwX HWc HBd
          cases hnr : nearN y t with
          | false =>
            have HID : Hid (strikeN s old (k + 1) = strikeN s old k) := HA.out.far hnr
            clear hnr hWd
            go_wp2
            go_roundw
            case rel => exact ⟨k + 1, by omega, by go_num, by show GmN _ _ _ _ _ _ _ _; rw [HID.out]; exact HGd.out, HBwd⟩
            case measure => simp [intOf]; omega
          | true =>
            have HNR := hid hnr
            have y6 : wc.cell? ⟨wr.heap.size, 6, none⟩ = some (.int .i64 (fld y 6)) := cell_of_row wc _ 6 _ _ _ hWd
            clear hnr
            have y0 : wc.cell? ⟨wr.heap.size, 0, none⟩ = some (.int .i64 (fld y 0)) := cell_of_row wc _ 0 _ _ _ hWd
            have y1 : wc.cell? ⟨wr.heap.size, 1, none⟩ = some (.int .i64 (fld y 1)) := cell_of_row wc _ 1 _ _ _ hWd
            have y2 : wc.cell? ⟨wr.heap.size, 2, none⟩ = some (.int .i64 (fld y 2)) := cell_of_row wc _ 2 _ _ _ hWd
            have y3 : wc.cell? ⟨wr.heap.size, 3, none⟩ = some (.int .i64 (fld y 3)) := cell_of_row wc _ 3 _ _ _ hWd
            have y4 : wc.cell? ⟨wr.heap.size, 4, none⟩ = some (.int .i64 (fld y 4)) := cell_of_row wc _ 4 _ _ _ hWd
            have y5 : wc.cell? ⟨wr.heap.size, 5, none⟩ = some (.int .i64 (fld y 5)) := cell_of_row wc _ 5 _ _ _ hWd
            have y7 : wc.cell? ⟨wr.heap.size, 7, none⟩ = some (.int .i64 (fld y 7)) := cell_of_row wc _ 7 _ _ _ hWd
            have y8 : wc.cell? ⟨wr.heap.size, 8, none⟩ = some (.int .i64 (fld y 8)) := cell_of_row wc _ 8 _ _ _ hWd
            have y9 : wc.cell? ⟨wr.heap.size, 9, none⟩ = some (.int .i64 (fld y 9)) := cell_of_row wc _ 9 _ _ _ hWd
            have y10 : wc.cell? ⟨wr.heap.size, 10, none⟩ = some (.int .i64 (fld y 10)) := cell_of_row wc _ 10 _ _ _ hWd
            obtain ⟨hc, hf⟩ := HGd.out.er.cells (i := m) (by rw [strikeN_len]; exact hml)
            rw [HA.out.t0] at hc
            have c5 := hc 5 (by omega)
            have f5 := hf (m * 11 + 5)
            have hgd : g < wc.heap.size := World.block_lt_of_cell? wc _ c5
            have hrd : wr.heap.size < wc.heap.size := World.block_lt_of_cell? wc _ y0
            obtain ⟨hp0, hp1⟩ := HA.out.hp
            obtain ⟨Y, hY⟩ : ∃ Y, Y = wc := ⟨_, rfl⟩
            subst hY
            clear hc hf hWd
            cases h6 : (fld y 6 == 2) with
            | true =>
              obtain ⟨hh0, hh1⟩ := harmN_bd (fld y 2)
              have hwr : IntKind.i64.wrap (fld t 5 - Pl.nHarm (fld y 2)) = fld t 5 - Pl.nHarm (fld y 2) := IntWalk.i64_in _ ⟨by omega, by omega⟩
              have fr := field_rule3
              go_wp2_with fail
              go_cut [51] (fun _ wx => Hid (∃ w4, Below Y.heap.size Y w4 ∧ wx = w4.setCell ⟨g, m * 11 + 5, none⟩ (.int .i64 (fld t 5 - Pl.nHarm (fld y 2)))))
              case first =>
                go_region_with (first | (go_at_call 155; refine (rule_newer_calls y _).mono ?_; rintro e w4 ⟨rfl, hb4⟩; have HB4 := hid (below_drewd hb4); have m5 := (HB4.out.cell (p := ⟨g, m * 11 + 5, none⟩) hgd).trans c5; have fm5 := (HB4.out.frozen (p := ⟨g, m * 11 + 5, none⟩) hgd).trans f5; clear hb4))
                all_goals
                  go_wp2
                  go_meet
                  exact ⟨_, HB4.out, rfl⟩
              case rest =>
                obtain ⟨w4, hb4, rfl⟩ := hcut.out
                have hG5 := gmN_rput (HGd.out.below hb4) (i := m) (by rw [strikeN_len]; exact hml) (j := 5) (by omega) (fld t 5 - Pl.nHarm (fld y 2))
                rw [HA.out.t0] at hG5
                have HG6 := hid (HA.out.fight HNR.out (by simpa using h6) hG5)
                have HB6 : Hid (Below base w (w4.setCell ⟨g, m * 11 + 5, none⟩ (.int .i64 (fld t 5 - Pl.nHarm (fld y 2))))) := (HBwd.out.trans (hb4.mono (by omega))).setCell (p := ⟨g, m * 11 + 5, none⟩) hbg _
                clear hcut hG5 hb4 y0 y1 y2 y3 y4 y5 y6 y7 y8 y9 y10 c5 f5 fr hwr
                generalize w4.setCell ⟨g, m * 11 + 5, none⟩ (.int .i64 (fld t 5 - Pl.nHarm (fld y 2))) = w5 at HG6 HB6 ⊢
                go_wp2
                go_roundw
                case rel => exact ⟨k + 1, by omega, by go_num, HG6, HB6⟩
                case measure => simp [intOf]; omega
            | false =>
              obtain ⟨hh0, hh1⟩ := loadN_bd (fld y 2)
              have hwr : IntKind.i64.wrap (fld t 5 - Pl.nLoad (fld y 2)) = fld t 5 - Pl.nLoad (fld y 2) := IntWalk.i64_in _ ⟨by omega, by omega⟩
              have fr := field_rule5
              go_wp2_with fail
              go_cut [61] (fun _ wx => Hid (∃ w4, Below Y.heap.size Y w4 ∧ wx = w4.setCell ⟨g, m * 11 + 5, none⟩ (.int .i64 (fld t 5 - Pl.nLoad (fld y 2)))))
              case first =>
                go_region_with (first | (go_at_call 155; refine (rule_newer_calls y _).mono ?_; rintro e w4 ⟨rfl, hb4⟩; have HB4 := hid (below_drewd hb4); have m5 := (HB4.out.cell (p := ⟨g, m * 11 + 5, none⟩) hgd).trans c5; have fm5 := (HB4.out.frozen (p := ⟨g, m * 11 + 5, none⟩) hgd).trans f5; clear hb4))
                all_goals
                  go_wp2
                  go_meet
                  exact ⟨_, HB4.out, rfl⟩
              case rest =>
                obtain ⟨w4, hb4, rfl⟩ := hcut.out
                have hn6 : fld y 6 ≠ 2 := by simpa using h6
                have hG5 := gmN_rput (HGd.out.below hb4) (i := m) (by rw [strikeN_len]; exact hml) (j := 5) (by omega) (fld t 5 - Pl.nLoad (fld y 2))
                rw [HA.out.t0] at hG5
                have hG6 := HA.out.mine HNR.out hn6 hG5
                have HB6 : Hid (Below base w (w4.setCell ⟨g, m * 11 + 5, none⟩ (.int .i64 (fld t 5 - Pl.nLoad (fld y 2))))) := (HBwd.out.trans (hb4.mono (by omega))).setCell (p := ⟨g, m * 11 + 5, none⟩) hbg _
                have hWZ : (w4.setCell ⟨g, m * 11 + 5, none⟩ (.int .i64 (fld t 5 - Pl.nLoad (fld y 2)))).heap[wr.heap.size]? = some (.cells (unitC y) 110) := (heap_setCell_other _ ⟨g, m * 11 + 5, none⟩ wr.heap.size _ (fun e => by have : wr.heap.size = g := e; omega)).trans ((hb4.block _ hrd).trans HWd.out)
                clear hcut hG5 hb4 y0 y1 y2 y3 y4 y5 y6 y7 y8 y9 y10 c5 f5 hwr
                generalize w4.setCell ⟨g, m * 11 + 5, none⟩ (.int .i64 (fld t 5 - Pl.nLoad (fld y 2))) = Z at hG6 HB6 hWZ ⊢
                have HG6 := hid hG6
                have HWZ := hid hWZ
                have y0 : Z.cell? ⟨wr.heap.size, 0, none⟩ = some (.int .i64 (fld y 0)) := cell_of_row Z _ 0 _ _ _ hWZ
                have y1 : Z.cell? ⟨wr.heap.size, 1, none⟩ = some (.int .i64 (fld y 1)) := cell_of_row Z _ 1 _ _ _ hWZ
                have y2 : Z.cell? ⟨wr.heap.size, 2, none⟩ = some (.int .i64 (fld y 2)) := cell_of_row Z _ 2 _ _ _ hWZ
                have y3 : Z.cell? ⟨wr.heap.size, 3, none⟩ = some (.int .i64 (fld y 3)) := cell_of_row Z _ 3 _ _ _ hWZ
                have y4 : Z.cell? ⟨wr.heap.size, 4, none⟩ = some (.int .i64 (fld y 4)) := cell_of_row Z _ 4 _ _ _ hWZ
                have y5 : Z.cell? ⟨wr.heap.size, 5, none⟩ = some (.int .i64 (fld y 5)) := cell_of_row Z _ 5 _ _ _ hWZ
                have y6 : Z.cell? ⟨wr.heap.size, 6, none⟩ = some (.int .i64 (fld y 6)) := cell_of_row Z _ 6 _ _ _ hWZ
                have y7 : Z.cell? ⟨wr.heap.size, 7, none⟩ = some (.int .i64 (fld y 7)) := cell_of_row Z _ 7 _ _ _ hWZ
                have y8 : Z.cell? ⟨wr.heap.size, 8, none⟩ = some (.int .i64 (fld y 8)) := cell_of_row Z _ 8 _ _ _ hWZ
                have y9 : Z.cell? ⟨wr.heap.size, 9, none⟩ = some (.int .i64 (fld y 9)) := cell_of_row Z _ 9 _ _ _ hWZ
                have y10 : Z.cell? ⟨wr.heap.size, 10, none⟩ = some (.int .i64 (fld y 10)) := cell_of_row Z _ 10 _ _ _ hWZ
                have hpZ : p < Z.heap.size := hG6.lt
                have hrZ : wr.heap.size < Z.heap.size := World.block_lt_of_cell? Z _ y0
                obtain ⟨hgo0, hgo1⟩ := HA.out.gold
                obtain ⟨G, hG0⟩ : ∃ G : Int, (fld y 1 = 0 ∧ G = (strikeN s old k).g0) ∨ (fld y 1 = 1 ∧ G = (strikeN s old k).g1) := by
                  rcases HA.out.own with e | e
                  · exact ⟨_, Or.inl ⟨e, rfl⟩⟩
                  · exact ⟨_, Or.inr ⟨e, rfl⟩⟩
                have hGb : 0 ≤ G ∧ G ≤ 1000 := by rcases hG0 with ⟨_, e⟩ | ⟨_, e⟩ <;> rw [e] <;> omega
                have hob : 0 ≤ fld y 1 ∧ fld y 1 < 2 := by rcases hG0 with ⟨e, _⟩ | ⟨e, _⟩ <;> omega
                obtain ⟨hGb0, hGb1⟩ := hGb
                obtain ⟨hob0, hob1⟩ := hob
                have cg : Z.cell? ⟨p, 1 + (fld y 1).toNat, none⟩ = some (.int .i64 G) := by
                  rcases hG0 with ⟨e, eg⟩ | ⟨e, eg⟩
                  · rw [e, eg]; exact hG6.cell 1
                  · rw [e, eg]; exact hG6.cell 2
                have fg : Z.frozen? ⟨p, 1 + (fld y 1).toNat, none⟩ = false := hG6.frozen _
                have HGG := hid hG0
                have hwa : IntKind.i64.wrap (G + Pl.nLoad (fld y 2)) = G + Pl.nLoad (fld y 2) := IntWalk.i64_in _ ⟨by omega, by omega⟩
                clear hWZ hG6 hG0 hgo0 hgo1
                go_wp2_with fail
                have HFIN : Hid (∀ w7, Below Z.heap.size Z w7 → ∃ k' : Nat, k' ≤ o ∧ (k : Int) + 1 = k' ∧ Hid (GmN base (w7.setCell ⟨p, 1 + (fld y 1).toNat, none⟩ (.int .i64 (min (G + Pl.nLoad (fld y 2)) 1000))) p (.slice (some ⟨g, 0, none⟩) s.es.length c) B (strikeN s old k') (whoK s.es s.es.length) o) ∧ Hid (Below base w (w7.setCell ⟨p, 1 + (fld y 1).toNat, none⟩ (.int .i64 (min (G + Pl.nLoad (fld y 2)) 1000))))) := by
                  intro w7 hb7
                  have hG7 := HG6.out.below hb7
                  refine ⟨k + 1, by omega, by omega, ?_, (HB6.out.trans (hb7.mono (by omega))).setCell (p := ⟨p, 1 + (fld y 1).toNat, none⟩) hbp _⟩
                  rcases HGG.out with ⟨e, eg⟩ | ⟨e, eg⟩
                  · have hx := hG7.pset 1 (.int .i64 (min (G + Pl.nLoad (fld y 2)) 1000)) (s' := { strikeN s old k with es := (strikeN s old (k + 1)).es, g0 := min ((strikeN s old k).g0 + Pl.nLoad (fld y 2)) 1000 }) (by rw [eg]; rfl) hG7.er
                    rw [HA.out.gain0 HNR.out hn6 e] at hx
                    rw [e]
                    exact hx
                  · have hx := hG7.pset 2 (.int .i64 (min (G + Pl.nLoad (fld y 2)) 1000)) (s' := { strikeN s old k with es := (strikeN s old (k + 1)).es, g1 := min ((strikeN s old k).g1 + Pl.nLoad (fld y 2)) 1000 }) (by rw [eg]; rfl) hG7.er
                    rw [HA.out.gain1 HNR.out hn6 e] at hx
                    rw [e]
                    exact hx
                clear HG6 HB6 HGG
                have X0 : ∀ w', Z.grownBy w' (some p) → w'.cell? ⟨wr.heap.size, 0, none⟩ = some (.int .i64 (fld y 0)) := fun w' h => (grown_cell h hrZ (by omega) 0).trans y0
                have X1 : ∀ w', Z.grownBy w' (some p) → w'.cell? ⟨wr.heap.size, 1, none⟩ = some (.int .i64 (fld y 1)) := fun w' h => (grown_cell h hrZ (by omega) 1).trans y1
                have X2 : ∀ w', Z.grownBy w' (some p) → w'.cell? ⟨wr.heap.size, 2, none⟩ = some (.int .i64 (fld y 2)) := fun w' h => (grown_cell h hrZ (by omega) 2).trans y2
                have X3 : ∀ w', Z.grownBy w' (some p) → w'.cell? ⟨wr.heap.size, 3, none⟩ = some (.int .i64 (fld y 3)) := fun w' h => (grown_cell h hrZ (by omega) 3).trans y3
                have X4 : ∀ w', Z.grownBy w' (some p) → w'.cell? ⟨wr.heap.size, 4, none⟩ = some (.int .i64 (fld y 4)) := fun w' h => (grown_cell h hrZ (by omega) 4).trans y4
                have X5 : ∀ w', Z.grownBy w' (some p) → w'.cell? ⟨wr.heap.size, 5, none⟩ = some (.int .i64 (fld y 5)) := fun w' h => (grown_cell h hrZ (by omega) 5).trans y5
                have X6 : ∀ w', Z.grownBy w' (some p) → w'.cell? ⟨wr.heap.size, 6, none⟩ = some (.int .i64 (fld y 6)) := fun w' h => (grown_cell h hrZ (by omega) 6).trans y6
                have X7 : ∀ w', Z.grownBy w' (some p) → w'.cell? ⟨wr.heap.size, 7, none⟩ = some (.int .i64 (fld y 7)) := fun w' h => (grown_cell h hrZ (by omega) 7).trans y7
                have X8 : ∀ w', Z.grownBy w' (some p) → w'.cell? ⟨wr.heap.size, 8, none⟩ = some (.int .i64 (fld y 8)) := fun w' h => (grown_cell h hrZ (by omega) 8).trans y8
                have X9 : ∀ w', Z.grownBy w' (some p) → w'.cell? ⟨wr.heap.size, 9, none⟩ = some (.int .i64 (fld y 9)) := fun w' h => (grown_cell h hrZ (by omega) 9).trans y9
                have X10 : ∀ w', Z.grownBy w' (some p) → w'.cell? ⟨wr.heap.size, 10, none⟩ = some (.int .i64 (fld y 10)) := fun w' h => (grown_cell h hrZ (by omega) 10).trans y10
                clear y0 y1 y2 y3 y4 y5 y6 y7 y8 y9 y10
                refine wp_region_noPanic ?_
                refine wp_region_held_drew (S := fun w' => Z.grownBy w' (some p)) (by kernel_rfl) (grown_drew _ _) (fun hHeld => ?_)
                refine wpAnyH_take (i := 0) (v := ?_) rfl (by kernel_rfl) (by kernel_rfl) (by kernel_rfl) (fun _ _ _ h => h) (Or.inl ⟨by rfl, ?_⟩) (by assumption) ?_
                rotate_left
                · intro w' hSw
                  go_simp
                  all_goals with_reducible rfl
                simp only [Act.put]
                refine wpAnyH_take (i := 1) (v := ?_) rfl (by kernel_rfl) (by kernel_rfl) (by kernel_rfl) (fun _ _ _ h => h) (Or.inl ⟨by rfl, ?_⟩) (by assumption) ?_
                rotate_left
                · intro w' hSw
                  go_simp
                  all_goals with_reducible rfl
                simp only [Act.put]
                refine wpAnyH_take (i := 3) (v := ?_) rfl (by kernel_rfl) (by kernel_rfl) (by kernel_rfl) (fun _ _ _ h => h) (Or.inl ⟨by rfl, ?_⟩) (by assumption) ?_
                rotate_left
                · intro w' hSw
                  go_simp
                  all_goals with_reducible rfl
                simp only [Act.put]
                refine wpAnyH_take (i := 4) (v := ?_) rfl (by kernel_rfl) (by kernel_rfl) (by kernel_rfl) (fun _ _ _ h => h) (Or.inl ⟨by rfl, ?_⟩) (by assumption) ?_
                rotate_left
                · intro w' hSw
                  go_simp
                  all_goals with_reducible rfl
                simp only [Act.put]
                refine wpAnyH_take (i := 6) (v := ?_) rfl (by kernel_rfl) (by kernel_rfl) (by kernel_rfl) (fun _ _ _ h => h) (Or.inl ⟨by rfl, ?_⟩) (by assumption) ?_
                rotate_left
                · intro w' hSw
                  go_simp
                  all_goals with_reducible rfl
                simp only [Act.put]
                refine wpAnyH_take (i := 7) (v := ?_) rfl (by kernel_rfl) (by kernel_rfl) (by kernel_rfl) (fun _ _ _ h => h) (Or.inl ⟨by rfl, ?_⟩) (by assumption) ?_
                rotate_left
                · intro w' hSw
                  go_simp
                  all_goals with_reducible rfl
                simp only [Act.put]
                refine wpAnyH_take (i := 8) (v := ?_) rfl (by kernel_rfl) (by kernel_rfl) (by kernel_rfl) (fun _ _ _ h => h) (Or.inl ⟨by rfl, ?_⟩) (by assumption) ?_
                rotate_left
                · intro w' hSw
                  go_simp
                  all_goals with_reducible rfl
                simp only [Act.put]
                refine wpAnyH_take (i := 16) (v := ?_) rfl (by kernel_rfl) (by kernel_rfl) (by kernel_rfl) (fun _ _ _ h => h) (Or.inl ⟨by rfl, ?_⟩) (by assumption) ?_
                rotate_left
                · intro w' hSw
                  go_simp
                  all_goals with_reducible rfl
                simp only [Act.put]
                refine wpAnyH_take (i := 17) (v := ?_) rfl (by kernel_rfl) (by kernel_rfl) (by kernel_rfl) (fun _ _ _ h => h) (Or.inl ⟨by rfl, ?_⟩) (by assumption) ?_
                rotate_left
                · intro w' hSw
                  go_simp
                  all_goals with_reducible rfl
                simp only [Act.put]
                refine wpAnyH_take (i := 18) (v := ?_) rfl (by kernel_rfl) (by kernel_rfl) (by kernel_rfl) (fun _ _ _ h => h) (Or.inl ⟨by rfl, ?_⟩) (by assumption) ?_
                rotate_left
                · intro w' hSw
                  go_simp
                  all_goals with_reducible rfl
                simp only [Act.put]
                refine wpAnyH_take (i := 2) (v := ?_) rfl (by kernel_rfl) (by kernel_rfl) (by kernel_rfl) (fun _ _ _ h => h) (Or.inl ⟨by rfl, ?_⟩) (by assumption) ?_
                rotate_left
                · intro w' hSw
                  go_simp
                  all_goals with_reducible rfl
                simp only [Act.put]
                refine wpAnyH_take (i := 5) (v := ?_) rfl (by kernel_rfl) (by kernel_rfl) (by kernel_rfl) (fun _ _ _ h => h) (Or.inl ⟨by rfl, ?_⟩) (by assumption) ?_
                rotate_left
                · intro w' hSw
                  go_simp
                  all_goals with_reducible rfl
                simp only [Act.put]
                refine wpAnyH_take (i := 9) (v := ?_) rfl (by kernel_rfl) (by kernel_rfl) (by kernel_rfl) (fun _ _ _ h => h) (Or.inl ⟨by rfl, ?_⟩) (by assumption) ?_
                rotate_left
                · intro w' hSw
                  go_simp
                  all_goals with_reducible rfl
                simp only [Act.put]
                refine wpAnyH_take (i := 11) (v := ?_) rfl (by kernel_rfl) (by kernel_rfl) (by kernel_rfl) (fun _ _ _ h => h) (Or.inl ⟨by rfl, ?_⟩) (by assumption) ?_
                rotate_left
                · intro w' hSw
                  go_simp
                  all_goals with_reducible rfl
                simp only [Act.put]
                refine wpAnyH_ready (rs := [10, 12]) (by kernel_rfl) (by simp) ?_
                refine AllReadyH.cons rfl (fun K hK => ?_) (AllReadyH.cons rfl (fun K hK => ?_) AllReadyH.nil)
                · go_simp
                  refine hK.out _ _ (by assumption) (fun hHeld => ?_)
                  clear hK K
                  refine wpAnyH_ready (rs := [12]) (by kernel_rfl) (by simp) ?_
                  refine AllReadyH.cons rfl (fun K hK => ?_) AllReadyH.nil
                  go_simp
                  refine (rule_newer_calls y _).mono ?_
                  rintro e w7 ⟨rfl, hb7⟩
                  have HB7 := hid (below_drewd hb7)
                  have mg := (HB7.out.cell (p := ⟨p, 1 + (fld y 1).toNat, none⟩) hpZ).trans cg
                  have fmg := (HB7.out.frozen (p := ⟨p, 1 + (fld y 1).toNat, none⟩) hpZ).trans fg
                  have hgw7 : Z.grownBy w7 (some p) := ⟨HB7.out.os, HB7.out.tape, HB7.out.output, HB7.out.size, fun k hk _ => HB7.out.block k hk⟩
                  clear hb7 hHeld
                  go_wp2_with fail
                  refine hK.out _ _ hgw7 (fun hHeld => ?_)
                  clear hK K
                  refine wpAnyH_take (i := 13) (v := ?_) rfl (by kernel_rfl) (by kernel_rfl) (by kernel_rfl) (fun _ _ _ h => h) (Or.inl ⟨by rfl, ?_⟩) (by assumption) ?_
                  rotate_left
                  · intro w' hSw
                    go_simp
                    all_goals with_reducible rfl
                  simp only [Act.put]
                  refine wpAnyH_take (i := 14) (v := ?_) rfl (by kernel_rfl) (by kernel_rfl) (by kernel_rfl) (fun _ _ _ h => h) (Or.inl ⟨by rfl, ?_⟩) (by assumption) ?_
                  rotate_left
                  · intro w' hSw
                    go_simp
                    all_goals with_reducible rfl
                  simp only [Act.put]
                  refine wpAnyH_ready (rs := [15]) (by kernel_rfl) (by simp) ?_
                  refine AllReadyH.cons rfl (fun K hK => ?_) AllReadyH.nil
                  go_simp
                  refine hK.out _ _ (by assumption) (fun hHeld => ?_)
                  clear hK K
                  refine wpAnyH_take (i := 19) (v := ?_) rfl (by kernel_rfl) (by kernel_rfl) (by kernel_rfl) (fun _ _ _ h => h) (Or.inl ⟨by rfl, ?_⟩) (by assumption) ?_
                  rotate_left
                  · intro w' hSw
                    go_simp
                    all_goals with_reducible rfl
                  simp only [Act.put]
                  refine wpAnyH_ready (rs := [20]) (by kernel_rfl) (by simp) ?_
                  refine AllReadyH.cons rfl (fun K hK => ?_) AllReadyH.nil
                  go_simp
                  refine hK.out _ _ (grown_set hgw7 _ _) (fun hHeld => ?_)
                  clear hK K
                  refine wpAnyH_done (by kernel_rfl) ?_ _
                  refine NoPanic.normal ?_
                  obtain ⟨k', hk', hke, HG8, HB8⟩ := HFIN.out w7 HB7.out
                  rw [min_ifN] at HG8 HB8
                  clear cg fg mg fmg hgw7 hHeld X0 X1 X2 X3 X4 X5 X6 X7 X8 X9 X10 fr hwa
                  go_wp2
                  go_roundw
                  case rel => exact ⟨k', hk', by rw [← hke], HG8, HB8⟩
                  case measure => simp [intOf]; omega
                · go_simp
                  refine (rule_newer_calls y _).mono ?_
                  rintro e w7 ⟨rfl, hb7⟩
                  have HB7 := hid (below_drewd hb7)
                  have mg := (HB7.out.cell (p := ⟨p, 1 + (fld y 1).toNat, none⟩) hpZ).trans cg
                  have fmg := (HB7.out.frozen (p := ⟨p, 1 + (fld y 1).toNat, none⟩) hpZ).trans fg
                  have hgw7 : Z.grownBy w7 (some p) := ⟨HB7.out.os, HB7.out.tape, HB7.out.output, HB7.out.size, fun k hk _ => HB7.out.block k hk⟩
                  clear hb7 hHeld
                  go_wp2_with fail
                  refine hK.out _ _ hgw7 (fun hHeld => ?_)
                  clear hK K
                  refine wpAnyH_take (i := 13) (v := ?_) rfl (by kernel_rfl) (by kernel_rfl) (by kernel_rfl) (fun _ _ _ h => h) (Or.inl ⟨by rfl, ?_⟩) (by assumption) ?_
                  rotate_left
                  · intro w' hSw
                    go_simp
                    all_goals with_reducible rfl
                  simp only [Act.put]
                  refine wpAnyH_ready (rs := [10]) (by kernel_rfl) (by simp) ?_
                  refine AllReadyH.cons rfl (fun K hK => ?_) AllReadyH.nil
                  go_simp
                  refine hK.out _ _ (by assumption) (fun hHeld => ?_)
                  clear hK K
                  refine wpAnyH_take (i := 14) (v := ?_) rfl (by kernel_rfl) (by kernel_rfl) (by kernel_rfl) (fun _ _ _ h => h) (Or.inl ⟨by rfl, ?_⟩) (by assumption) ?_
                  rotate_left
                  · intro w' hSw
                    go_simp
                    all_goals with_reducible rfl
                  simp only [Act.put]
                  refine wpAnyH_ready (rs := [15]) (by kernel_rfl) (by simp) ?_
                  refine AllReadyH.cons rfl (fun K hK => ?_) AllReadyH.nil
                  go_simp
                  refine hK.out _ _ (by assumption) (fun hHeld => ?_)
                  clear hK K
                  refine wpAnyH_take (i := 19) (v := ?_) rfl (by kernel_rfl) (by kernel_rfl) (by kernel_rfl) (fun _ _ _ h => h) (Or.inl ⟨by rfl, ?_⟩) (by assumption) ?_
                  rotate_left
                  · intro w' hSw
                    go_simp
                    all_goals with_reducible rfl
                  simp only [Act.put]
                  refine wpAnyH_ready (rs := [20]) (by kernel_rfl) (by simp) ?_
                  refine AllReadyH.cons rfl (fun K hK => ?_) AllReadyH.nil
                  go_simp
                  refine hK.out _ _ (grown_set hgw7 _ _) (fun hHeld => ?_)
                  clear hK K
                  refine wpAnyH_done (by kernel_rfl) ?_ _
                  refine NoPanic.normal ?_
                  obtain ⟨k', hk', hke, HG8, HB8⟩ := HFIN.out w7 HB7.out
                  rw [min_ifN] at HG8 HB8
                  clear cg fg mg fmg hgw7 hHeld X0 X1 X2 X3 X4 X5 X6 X7 X8 X9 X10 fr hwa
                  go_wp2
                  go_roundw
                  case rel => exact ⟨k', hk', by rw [← hke], HG8, HB8⟩
                  case measure => simp [intOf]; omega
    · have hkz : ¬ (k : Int) < (o : Int) := by omega
      have HF : Hid (GmN base wr p (.slice ea s.es.length c) B (strikeSO s old) (whoK s.es s.es.length) o) := by
        have h := HGk.out
        have e : k = o := by omega
        rw [e, strikeN_old HO.out] at h
        exact h
      clear HGk
      go_wp2
      go_end0
      exact ⟨rfl, HF.out, HBk.out⟩
end Go.Proofs.Ytmnddahkbmlibaa
