/- The reference: a tick of the newer game that is played. -/
import Derived.Deep.DeepCutAuto
import Derived.Test.YtmnddahkbmlibaaNsNrA
namespace Go.Proofs.Ytmnddahkbmlibaa
open Go.RowKit Go.Maps
set_option maxRecDepth 100000 in
set_option maxHeartbeats 16000000 in
theorem stepNR_good (s : St) (ua la : Option Addr) (uc lc : Nat) (l : List (List Int)) (w : World) (h : InW w s ua uc) (hl : Recs w la 6 l) (hc : checkN s.t s.g0 s.g1 s.nx s.es = 0) (h8 : l.length ≤ 8) (ht : s.t ≠ 60) :
    Calls Try.prog 53 #[newerV s.t s.g0 s.g1 s.nx (.slice ua s.es.length uc), .slice la l.length lc] w fun e w' => ∃ uv, e = .returned (.tuple #[newerV (stepN s l).t (stepN s l).g0 (stepN s l).g1 (stepN s l).nx uv, .int .i64 0]) ∧ RowU w.heap.size w' uv (stepN s l).es ∧ Below w.heap.size w w' := by
  have hI := invN_of_check h.fr hc
  obtain ⟨W, hW⟩ : ∃ W, (w.alloc (.cells (newerC s.t s.g0 s.g1 s.nx (.slice ua s.es.length uc)) 90)).alloc (.cells (newerC 0 0 0 0 (.slice none 0 0)) 90) = W := ⟨_, rfl⟩
  obtain ⟨hbW, hsW, hh0, hh1⟩ := boxes5 hW
  obtain ⟨x0, x1, x2, x3, x4, _⟩ := five_cells hh0
  have HO := hid (ofNewer_calls s.t s.g0 s.g1 s.nx ua uc s.es W (by have := hI.el; omega) (h.rows.below hbW) h.un)
  have HBW := hid hbW
  have HSW := hid hsW
  have H0 := hid hh0
  have H1 := hid hh1
  have HU := hid (st0_N h.fr h.born)
  have HF := hid (faultN s h.fr)
  rw [hc] at HF
  have HBORN := hid h.born
  have HINV := hid hI
  have HL := hid (hl.below hbW)
  have h8z : ¬ (8 : Int) < (l.length : Int) := by omega
  have h60 : (s.t == 60) = false := by simpa using ht
  have HT60 := hid ht
  clear h hbW hsW hh0 hh1 hc hI hl ht
  go_enter Try.func53, Try.ntmps53
  go_wp2_with fail
  refine HO.out.mono ?_
  rintro e w1 ⟨p, rfl, hG1, hb1⟩
  rw [HU.out] at hG1
  have HC := hid (fault_calls W.heap.size p true s w1 hG1)
  rw [HF.out] at HC
  have HB1 := hid hb1
  have HG1 := hid hG1
  clear HO hG1 hb1 x0 x1 x2 x3 x4 hW
  go_wp2_with fail
  refine HC.out.mono ?_
  rintro e w2 ⟨rfl, hb2⟩
  have hb12 : Below W.heap.size W w2 := HB1.out.trans (hb2.mono HB1.out.size)
  have hr := (hb12.block w.heap.size (by rw [HSW.out]; omega)).trans H0.out
  obtain ⟨r0, _, _, _, _, _⟩ := five_cells hr
  have HB2 := hid hb12
  have hG2 := HG1.out.below hb2
  have HG2 := hid hG2
  have hse := HINV.out.el
  have HI2 : Hid (∀ wx, Below w2.heap.size w2 wx → Calls Try.prog 89 #[.pointer (some ⟨p, 0, none⟩)] wx fun e w' => ∃ v, e = .returned v ∧ NRow wx.heap.size w' v (idsE s.es) ∧ Below wx.heap.size wx w') := fun wx hx => by
    obtain ⟨uv, fv, bv, hg⟩ := hG2.below hx
    obtain ⟨ua, uc, rfl, _, _, _⟩ := hg.er.open
    exact refIds_calls p true ua uc s.es wx (hg.rg (by omega))
  clear HC hb2 hr hb12 HB1 HG1 hG2
  go_wp2_with fail
  refine (HI2.out w2 (Below.refl _ _)).mono ?_
  rintro e w3 ⟨ov, rfl, hold, hb3⟩
  obtain ⟨oa, oc, rfl, _, hon, hog⟩ := hold.open
  have HB3 : Hid (Below W.heap.size W w3) := HB2.out.trans (hb3.mono HB2.out.size)
  have HG3 : Hid (GrE W.heap.size w3 p true (ordsN s (l.take 0))) := HG2.out.below hb3
  have HOO : Hid (OldOk w3 p oa (idsE s.es)) := by
    refine ⟨hon, fun b o e => ?_⟩
    obtain ⟨uv, fv, bv, hg⟩ := HG2.out
    subst e
    have h1 := World.ownsRow.lt hold b rfl
    exact ⟨h1.2, hg.apartNew hb3 h1.1⟩
  clear HI2 hold hb3 hon hog HB2 HG2 r0
  go_wp2_with fail
  go_loopw [9] (fun i wr => ∃ k : Nat, k ≤ l.length ∧ i = .int .i64 k ∧ Hid (GrE W.heap.size wr p true (ordsN s (l.take k))) ∧ Hid (Below W.heap.size W wr) ∧ Hid (OldOk wr p oa (idsE s.es))) (fun i _ => l.length - (intOf i).toNat)
  case atStart => exact ⟨0, Nat.zero_le _, rfl, HG3, HB3, HOO⟩
  case round =>
    clear HG3 HB3 HOO
    obtain ⟨k, hk, rfl, HGk, HBk, HOk⟩ := hrel
    have HIk := hid (invN_ords (l.take k) HINV.out)
    have HBO := hid (ords_born (l.take k) HINV.out)
    rw [HBORN.out] at HBO
    by_cases hkl : k < l.length
    · have hkz : (k : Int) < (l.length : Int) := by omega
      obtain ⟨b, o, rfl, hc⟩ := (HL.out.below HBk.out).at hkl
      have l0 : wr.cell? ⟨b, o + k * 6, none⟩ = some (.int .i64 (fld (rec l k) 0)) := hc 0 (by omega)
      have l1 := hc 1 (by omega)
      have l2 := hc 2 (by omega)
      have l3 := hc 3 (by omega)
      have l4 := hc 4 (by omega)
      have l5 := hc 5 (by omega)
      have HNX := hid (ords_next s hkl)
      have HBL : Hid ((ordsN s (l.take k)).born.length ≤ 1000) := by
        show _ ≤ _
        have := HBO.out
        rw [List.length_take] at this
        simp at this
        omega
      generalize rec l k = q at l0 l1 l2 l3 l4 l5 HNX
      generalize hT : ordsN s (l.take k) = T at HGk HIk HNX HBL
      obtain ⟨X, hX⟩ : ∃ X, wr.alloc (.cells (ordC q) 98) = X := ⟨_, rfl⟩
      have hbX : Below wr.heap.size wr X := by rw [← hX]; exact (Below.refl _ _).alloc (Nat.le_refl _) _
      have hxX : X.heap[wr.heap.size]? = some (.cells (ordC q) 98) := by rw [← hX]; exact heap_alloc_new _ _
      have hGX := HGk.out.below hbX
      have HOX := hid (HOk.out.below HGk.out.lt hbX)
      have HBX : Hid (Below W.heap.size W X) := HBk.out.trans (hbX.mono HBk.out.size)
      have HGX := hid hGX
      have hTe := HIk.out.el
      obtain ⟨ua, uc, u6, hur⟩ := hGX.who
      have HUR := hid hur
      have HFIN : Hid (∀ w2 S, GrE W.heap.size w2 p true S → Below W.heap.size X w2 → Fr X w2 p → S = ordN T q → GrE W.heap.size w2 p true (ordsN s (l.take (k + 1))) ∧ Below W.heap.size W w2 ∧ OldOk w2 p oa (idsE s.es)) := fun w2 S hg hb hf e => by
        rw [e, ← HNX.out] at hg
        exact ⟨hg, HBX.out.trans hb, HOX.out.fr hf⟩
      have HXX := hid hX
      have hxc : ∀ j, X.cell? ⟨wr.heap.size, j, none⟩ = (ordC q)[j]? := fun j => cell_of_row X wr.heap.size j _ _ _ hxX
      have y0 : X.cell? ⟨wr.heap.size, 0, none⟩ = some (.int .i64 (fld q 0)) := hxc 0
      have y1 : X.cell? ⟨wr.heap.size, 1, none⟩ = some (.int .i64 (fld q 1)) := hxc 1
      have y2 : X.cell? ⟨wr.heap.size, 2, none⟩ = some (.int .i64 (fld q 2)) := hxc 2
      have y3 : X.cell? ⟨wr.heap.size, 3, none⟩ = some (.int .i64 (fld q 3)) := hxc 3
      have y4 : X.cell? ⟨wr.heap.size, 4, none⟩ = some (.int .i64 (fld q 4)) := hxc 4
      have y5 : X.cell? ⟨wr.heap.size, 5, none⟩ = some (.int .i64 (fld q 5)) := hxc 5
      have HWH := hid (who_calls p uc ua T.es (fld q 2) X (by omega) u6 hur)
      have HSZ : Hid (W.heap.size ≤ X.heap.size) := HBX.out.size
      clear hc hX hbX hxX hGX hxc hur HGk HOk HBk HNX hT
      go_upto_region 12 with fail
      rw [HXX.out]
      clear l0 l1 l2 l3 l4 l5
      go_wp2_with fail
      refine HWH.out.mono ?_
      rintro e w5 ⟨rfl, rfl⟩
      clear HWH
      have hpX := HGX.out.lt
      have HFD : Hid (∀ n, ordN T q = T → GrE W.heap.size (w5.drewN n) p true (ordsN s (l.take (k + 1))) ∧ Below W.heap.size W (w5.drewN n) ∧ OldOk (w5.drewN n) p oa (idsE s.es)) := fun n e => by
        have hb := below_drewN (Below.refl w5.heap.size w5) n
        exact HFIN.out _ T (HGX.out.below hb) (hb.mono HSZ.out) (fr_below hpX hb) e.symm
      by_cases hz : whoZ (fld q 2) T.es < 0
      · have HE : Hid (ordN T q = T) := by show _ = _; unfold ordN; rw [if_pos hz]
        go_wp2_with fail
        go_quiet (fail)
        go_wp2
        go_roundw
        case rel => exact ⟨k + 1, by omega, by go_num, (HFD.out _ HE.out).1, (HFD.out _ HE.out).2.1, (HFD.out _ HE.out).2.2⟩
        case measure => simp [intOf]; omega
      obtain ⟨i, hi⟩ : ∃ i : Nat, whoZ (fld q 2) T.es = i := ⟨(whoZ (fld q 2) T.es).toNat, by omega⟩
      have hil : i < T.es.length := by have := (whoZ_bd (fld q 2) T.es).2; omega
      have HCD : Hid (ordN T q = if fld (rec T.es i) 1 = fld q 0 then doN T q i else T) := by
        show _ = _
        unfold ordN
        rw [if_neg hz, hi]
        rfl
      obtain ⟨b2, o2, rfl, hc2⟩ := HUR.out.at (i := i) hil
      have m1 := hc2 1 (by omega)
      have hiz : (i : Int) < (T.es.length : Int) := by omega
      have hi0 : ¬ (i : Int) < 0 := by omega
      rw [hi]
      clear hi hz hc2
      by_cases hown : fld (rec T.es i) 1 = fld q 0
      case neg =>
        have HE : Hid (ordN T q = T) := by show _ = _; rw [HCD.out, if_neg hown]
        have hnb : (fld (rec T.es i) 1 != fld q 0) = true := by simpa using hown
        go_wp2_with fail
        go_quiet (fail)
        go_wp2
        go_roundw
        case rel => exact ⟨k + 1, by omega, by go_num, (HFD.out _ HE.out).1, (HFD.out _ HE.out).2.1, (HFD.out _ HE.out).2.2⟩
        case measure => simp [intOf]; omega
      case pos =>
        have HE : Hid (ordN T q = doN T q i) := by show _ = _; rw [HCD.out, if_pos hown]
        have hnb : (fld (rec T.es i) 1 != fld q 0) = false := by simpa using hown
        clear hown HCD
        go_wp2_with fail
        go_quiet (fail)
        obtain ⟨Z, hZ⟩ : ∃ Z, Z = w5.drewN nq := ⟨_, rfl⟩
        have hbZ : Below w5.heap.size w5 Z := by rw [hZ]; exact below_drewN (Below.refl _ _) nq
        rw [← hZ]
        have hwr5 : wr.heap.size < w5.heap.size := World.block_lt_of_cell? w5 _ y1
        have KY : ∀ j v, w5.cell? ⟨wr.heap.size, j, none⟩ = some v → Z.cell? ⟨wr.heap.size, j, none⟩ = some v := fun j v hv => (hbZ.cell (p := ⟨wr.heap.size, j, none⟩) hwr5).trans hv
        have z1 := KY 1 _ y1
        have z3 := KY 3 _ y3
        have z4 := KY 4 _ y4
        have z5 := KY 5 _ y5
        have HGZ := hid (HGX.out.below hbZ)
        have HSZZ : Hid (W.heap.size ≤ Z.heap.size) := Nat.le_trans HSZ.out hbZ.size
        have HFZ : Hid (∀ w2 S, GrE W.heap.size w2 p true S → Below W.heap.size Z w2 → Fr Z w2 p → S = doN T q i → GrE W.heap.size w2 p true (ordsN s (l.take (k + 1))) ∧ Below W.heap.size W w2 ∧ OldOk w2 p oa (idsE s.es)) := fun w2 S hg hb hf e =>
          HFIN.out w2 S hg ((hbZ.mono HSZ.out).trans hb) (fr_trans (fr_below hpX hbZ) hf) (by rw [e, HE.out])
        have hn2 : T.es.length ≤ 1000 := by omega
        have hn3 : T.es.length ≤ 50 := by omega
        have HOW := hid (invN_on HIk.out (rec_mem hil))
        have HON : Hid (fld (rec T.es i) 2 = 1 → fld (rec T.es i) 1 = 0 ∨ fld (rec T.es i) 1 = 1) := fun hk1 => by
          have ho := HIk.out.ow _ (rec_mem hil)
          unfold ownerE inZ at ho
          rw [if_neg (by omega), decide_eq_true_eq] at ho
          omega
        have hurZ := HUR.out.below hbZ
        have u6Z : Z.cell? ⟨p, 6, none⟩ = some (.slice (some ⟨b2, o2, none⟩) T.es.length uc) := (hbZ.cell (p := ⟨p, 6, none⟩) hpX).trans u6
        have hwrZ : wr.heap.size < Z.heap.size := Nat.lt_of_lt_of_le hwr5 hbZ.size
        have HUZ := hid hurZ
        clear KY hZ hbZ y0 y1 y2 y3 y4 y5 u6 m1 HFD HFIN HE hnb
        by_cases c1 : fld q 1 = 1
        · have HD : Hid (doN T q i = goesR true T i (fld q 4) (fld q 5)) := by show _ = _; unfold doN; rw [if_pos c1]
          have b1 : (fld q 1 == 1) = true := by simpa using c1
          clear c1
          go_wp2_with fail
          refine (goes_calls W.heap.size p true T i (fld q 4) (fld q 5) Z hil hn2 HGZ.out).mono ?_
          rintro e w6 ⟨rfl, hG6, hb6, hf6⟩
          have HR6 := hid (HFZ.out w6 _ hG6 hb6 hf6 HD.out.symm)
          clear hG6 hb6 hf6 z1 z3 z4 z5
          go_wp2
          go_roundw
          case rel => exact ⟨k + 1, by omega, by go_num, HR6.out.1, HR6.out.2.1, HR6.out.2.2⟩
          case measure => simp [intOf]; omega
        have b1 : (fld q 1 == 1) = false := by simpa using c1
        by_cases c2 : fld q 1 = 2
        · have b2' : (fld q 1 == 2) = true := by simpa using c2
          have HWH := hid (who_calls p uc (some ⟨b2, o2, none⟩) T.es (fld q 3) Z hn2 u6Z hurZ)
          have HD : Hid (doN T q i = if 0 ≤ whoZ (fld q 3) T.es then aimsR true T i (fld q 3) (mayZ true (rec T.es i) (rec T.es (whoZ (fld q 3) T.es).toNat)) else T) := by show _ = _; unfold doN; rw [if_neg c1, if_pos c2]
          clear c1 c2 hurZ
          go_wp2_with fail
          refine HWH.out.mono ?_
          rintro e w7 ⟨rfl, rfl⟩
          clear HWH
          by_cases hz3 : 0 ≤ whoZ (fld q 3) T.es
          case neg =>
            have HR6 := hid (HFZ.out w7 _ HGZ.out (Below.refl _ _) (fr_below HGZ.out.lt (Below.refl _ _)) (by rw [HD.out, if_neg hz3]))
            have hz3' : ¬ 0 ≤ whoZ (fld q 3) T.es := hz3
            clear hz3 z1 z3 z4 z5
            go_wp2
            go_roundw
            case rel => exact ⟨k + 1, by omega, by go_num, HR6.out.1, HR6.out.2.1, HR6.out.2.2⟩
            case measure => simp [intOf]; omega
          obtain ⟨j, hj⟩ : ∃ j : Nat, whoZ (fld q 3) T.es = j := ⟨(whoZ (fld q 3) T.es).toNat, by omega⟩
          have hjl : j < T.es.length := by have := (whoZ_bd (fld q 3) T.es).2; omega
          rw [if_pos hz3, hj] at HD
          have HD' : Hid (doN T q i = aimsR true T i (fld q 3) (mayZ true (rec T.es i) (rec T.es j))) := HD.out
          rw [hj]
          have hjz : (j : Int) < (T.es.length : Int) := by omega
          have hj0 : (0 : Int) ≤ (j : Int) := by omega
          have hiz0 : (0 : Int) ≤ (i : Int) := by omega
          obtain ⟨b3, o3, hbo, hci⟩ := HUZ.out.at (i := i) hil
          cases hbo
          obtain ⟨b4, o4, hbo, hcj⟩ := HUZ.out.at (i := j) hjl
          cases hbo
          have g0 : w7.cell? ⟨p, 0, none⟩ = some (.bool true) := by obtain ⟨_, _, _, hg⟩ := HGZ.out; exact hg.cell 0
          have hpZ := HGZ.out.lt
          have SB : ∀ w', Below w7.heap.size w7 w' → ∀ b m v, w7.cell? ⟨b, m, none⟩ = some v → w'.cell? ⟨b, m, none⟩ = some v := fun w' hb b m v hv => (hb.cell (p := ⟨b, m, none⟩) (World.block_lt_of_cell? w7 _ hv)).trans hv
          have s3 : ∀ w', Below w7.heap.size w7 w' → w'.cell? ⟨wr.heap.size, 3, none⟩ = some (.int .i64 (fld q 3)) := fun w' hb => SB w' hb _ _ _ z3
          have s6 : ∀ w', Below w7.heap.size w7 w' → w'.cell? ⟨p, 6, none⟩ = some (.slice (some ⟨b2, o2, none⟩) T.es.length uc) := fun w' hb => SB w' hb _ _ _ u6Z
          have i0 : ∀ w', Below w7.heap.size w7 w' → w'.cell? ⟨b2, o2 + i * 11, none⟩ = some (.int .i64 (fld (rec T.es i) 0)) := fun w' hb => SB w' hb _ _ _ (hci 0 (by omega))
          have i1 : ∀ w', Below w7.heap.size w7 w' → w'.cell? ⟨b2, o2 + i * 11 + 1, none⟩ = some (.int .i64 (fld (rec T.es i) 1)) := fun w' hb => SB w' hb _ _ _ (hci 1 (by omega))
          have i2 : ∀ w', Below w7.heap.size w7 w' → w'.cell? ⟨b2, o2 + i * 11 + 2, none⟩ = some (.int .i64 (fld (rec T.es i) 2)) := fun w' hb => SB w' hb _ _ _ (hci 2 (by omega))
          have i3 : ∀ w', Below w7.heap.size w7 w' → w'.cell? ⟨b2, o2 + i * 11 + 3, none⟩ = some (.int .i64 (fld (rec T.es i) 3)) := fun w' hb => SB w' hb _ _ _ (hci 3 (by omega))
          have i4 : ∀ w', Below w7.heap.size w7 w' → w'.cell? ⟨b2, o2 + i * 11 + 4, none⟩ = some (.int .i64 (fld (rec T.es i) 4)) := fun w' hb => SB w' hb _ _ _ (hci 4 (by omega))
          have i5 : ∀ w', Below w7.heap.size w7 w' → w'.cell? ⟨b2, o2 + i * 11 + 5, none⟩ = some (.int .i64 (fld (rec T.es i) 5)) := fun w' hb => SB w' hb _ _ _ (hci 5 (by omega))
          have i6 : ∀ w', Below w7.heap.size w7 w' → w'.cell? ⟨b2, o2 + i * 11 + 6, none⟩ = some (.int .i64 (fld (rec T.es i) 6)) := fun w' hb => SB w' hb _ _ _ (hci 6 (by omega))
          have i7 : ∀ w', Below w7.heap.size w7 w' → w'.cell? ⟨b2, o2 + i * 11 + 7, none⟩ = some (.int .i64 (fld (rec T.es i) 7)) := fun w' hb => SB w' hb _ _ _ (hci 7 (by omega))
          have i8 : ∀ w', Below w7.heap.size w7 w' → w'.cell? ⟨b2, o2 + i * 11 + 8, none⟩ = some (.int .i64 (fld (rec T.es i) 8)) := fun w' hb => SB w' hb _ _ _ (hci 8 (by omega))
          have i9 : ∀ w', Below w7.heap.size w7 w' → w'.cell? ⟨b2, o2 + i * 11 + 9, none⟩ = some (.int .i64 (fld (rec T.es i) 9)) := fun w' hb => SB w' hb _ _ _ (hci 9 (by omega))
          have i10 : ∀ w', Below w7.heap.size w7 w' → w'.cell? ⟨b2, o2 + i * 11 + 10, none⟩ = some (.int .i64 (fld (rec T.es i) 10)) := fun w' hb => SB w' hb _ _ _ (hci 10 (by omega))
          have j0 : ∀ w', Below w7.heap.size w7 w' → w'.cell? ⟨b2, o2 + j * 11, none⟩ = some (.int .i64 (fld (rec T.es j) 0)) := fun w' hb => SB w' hb _ _ _ (hcj 0 (by omega))
          have j1 : ∀ w', Below w7.heap.size w7 w' → w'.cell? ⟨b2, o2 + j * 11 + 1, none⟩ = some (.int .i64 (fld (rec T.es j) 1)) := fun w' hb => SB w' hb _ _ _ (hcj 1 (by omega))
          have j2 : ∀ w', Below w7.heap.size w7 w' → w'.cell? ⟨b2, o2 + j * 11 + 2, none⟩ = some (.int .i64 (fld (rec T.es j) 2)) := fun w' hb => SB w' hb _ _ _ (hcj 2 (by omega))
          have j3 : ∀ w', Below w7.heap.size w7 w' → w'.cell? ⟨b2, o2 + j * 11 + 3, none⟩ = some (.int .i64 (fld (rec T.es j) 3)) := fun w' hb => SB w' hb _ _ _ (hcj 3 (by omega))
          have j4 : ∀ w', Below w7.heap.size w7 w' → w'.cell? ⟨b2, o2 + j * 11 + 4, none⟩ = some (.int .i64 (fld (rec T.es j) 4)) := fun w' hb => SB w' hb _ _ _ (hcj 4 (by omega))
          have j5 : ∀ w', Below w7.heap.size w7 w' → w'.cell? ⟨b2, o2 + j * 11 + 5, none⟩ = some (.int .i64 (fld (rec T.es j) 5)) := fun w' hb => SB w' hb _ _ _ (hcj 5 (by omega))
          have j6 : ∀ w', Below w7.heap.size w7 w' → w'.cell? ⟨b2, o2 + j * 11 + 6, none⟩ = some (.int .i64 (fld (rec T.es j) 6)) := fun w' hb => SB w' hb _ _ _ (hcj 6 (by omega))
          have j7 : ∀ w', Below w7.heap.size w7 w' → w'.cell? ⟨b2, o2 + j * 11 + 7, none⟩ = some (.int .i64 (fld (rec T.es j) 7)) := fun w' hb => SB w' hb _ _ _ (hcj 7 (by omega))
          have j8 : ∀ w', Below w7.heap.size w7 w' → w'.cell? ⟨b2, o2 + j * 11 + 8, none⟩ = some (.int .i64 (fld (rec T.es j) 8)) := fun w' hb => SB w' hb _ _ _ (hcj 8 (by omega))
          have j9 : ∀ w', Below w7.heap.size w7 w' → w'.cell? ⟨b2, o2 + j * 11 + 9, none⟩ = some (.int .i64 (fld (rec T.es j) 9)) := fun w' hb => SB w' hb _ _ _ (hcj 9 (by omega))
          have j10 : ∀ w', Below w7.heap.size w7 w' → w'.cell? ⟨b2, o2 + j * 11 + 10, none⟩ = some (.int .i64 (fld (rec T.es j) 10)) := fun w' hb => SB w' hb _ _ _ (hcj 10 (by omega))
          have HMA : Hid (∀ w', Below w7.heap.size w7 w' → Calls Try.prog 103 #[.pointer (some ⟨p, 0, none⟩), unitV (rec T.es i), unitV (rec T.es j)] w' fun e w'' => e = .returned (.int .i64 (mayZ true (rec T.es i) (rec T.es j))) ∧ Below w'.heap.size w' w'') := fun w' hb => may_calls p true _ _ w' ((hb.cell (p := ⟨p, 0, none⟩) hpZ).trans g0) (Nat.lt_of_lt_of_le hpZ hb.size)
          have HAM : Hid (∀ w', Below w7.heap.size w7 w' → Calls Try.prog 92 #[.pointer (some ⟨p, 0, none⟩), .int .i64 i, .int .i64 (fld q 3), .int .i64 (mayZ true (rec T.es i) (rec T.es j))] w' fun e w'' => e = .returned (.tuple #[]) ∧ (GrE W.heap.size w'' p true (ordsN s (l.take (k + 1))) ∧ Below W.heap.size W w'' ∧ OldOk w'' p oa (idsE s.es))) := fun w' hb => by
            refine (aims_calls W.heap.size p true T i (fld q 3) _ w' hil hn2 (HGZ.out.below hb)).mono ?_
            rintro e w'' ⟨he, hG6, hb6, hf6⟩
            exact ⟨he, HFZ.out w'' _ hG6 ((hb.mono HSZZ.out).trans hb6) (fr_trans (fr_below hpZ hb) hf6) HD'.out.symm⟩
          clear hz3 hj hci hcj HD z1 z3 z4 z5 u6Z g0 SB
          generalize rec T.es i = ui at i0 i1 i2 i3 i4 i5 i6 i7 i8 i9 i10 HMA HAM
          generalize rec T.es j = uj at j0 j1 j2 j3 j4 j5 j6 j7 j8 j9 j10 HMA HAM
          go_wp2_with fail
          refine wp_region_noPanic ?_
          refine wp_region_till (S := fun w' => Below w7.heap.size w7 w') 20 (by kernel_rfl) (Below.refl _ _).drew (fun hHeld => ?_)
          refine wpTill_take (i := 0) [0, 20] (v := ?_) rfl (by kernel_rfl) (by kernel_rfl) (by kernel_rfl) (by kernel_rfl) (fun _ _ _ h => h) (Or.inl ⟨by rfl, ?_⟩) (by assumption) ?_
          rotate_left
          · intro w' hSw
            go_simp
            all_goals with_reducible rfl
          simp only [Act.put]
          refine wpTill_take (i := 1) [1, 20] (v := ?_) rfl (by kernel_rfl) (by kernel_rfl) (by kernel_rfl) (by kernel_rfl) (fun _ _ _ h => h) (Or.inl ⟨by rfl, ?_⟩) (by assumption) ?_
          rotate_left
          · intro w' hSw
            go_simp
            all_goals with_reducible rfl
          simp only [Act.put]
          refine wpTill_take (i := 2) [2, 3, 20] (v := ?_) rfl (by kernel_rfl) (by kernel_rfl) (by kernel_rfl) (by kernel_rfl) (fun _ _ _ h => h) (Or.inl ⟨by rfl, ?_⟩) (by assumption) ?_
          rotate_left
          · intro w' hSw
            go_simp
            all_goals with_reducible rfl
          simp only [Act.put]
          refine wpTill_take (i := 4) [4, 19, 20] (v := ?_) rfl (by kernel_rfl) (by kernel_rfl) (by kernel_rfl) (by kernel_rfl) (fun _ _ _ h => h) (Or.inl ⟨by rfl, ?_⟩) (by assumption) ?_
          rotate_left
          · intro w' hSw
            go_simp
            all_goals with_reducible rfl
          simp only [Act.put]
          refine wpTill_take (i := 5) [5, 6, 7, 8, 10, 11, 19, 20] (v := ?_) rfl (by kernel_rfl) (by kernel_rfl) (by kernel_rfl) (by kernel_rfl) (fun _ _ _ h => h) (Or.inl ⟨by rfl, ?_⟩) (by assumption) ?_
          rotate_left
          · intro w' hSw
            go_simp
            all_goals with_reducible rfl
          simp only [Act.put]
          refine wpTill_take (i := 6) [6, 7, 8, 10, 11, 19, 20] (v := ?_) rfl (by kernel_rfl) (by kernel_rfl) (by kernel_rfl) (by kernel_rfl) (fun _ _ _ h => h) (Or.inl ⟨by rfl, ?_⟩) (by assumption) ?_
          rotate_left
          · intro w' hSw
            go_simp
            all_goals with_reducible rfl
          simp only [Act.put]
          refine wpTill_take (i := 7) [7, 8, 10, 11, 19, 20] (v := ?_) rfl (by kernel_rfl) (by kernel_rfl) (by kernel_rfl) (by kernel_rfl) (fun _ _ _ h => h) (Or.inl ⟨by rfl, ?_⟩) (by assumption) ?_
          rotate_left
          · intro w' hSw
            go_simp
            all_goals with_reducible rfl
          simp only [Act.put]
          refine wpTill_take (i := 9) [9, 10, 11, 19, 20] (v := ?_) rfl (by kernel_rfl) (by kernel_rfl) (by kernel_rfl) (by kernel_rfl) (fun _ _ _ h => h) (Or.inl ⟨by rfl, ?_⟩) (by assumption) ?_
          rotate_left
          · intro w' hSw
            go_simp
            all_goals with_reducible rfl
          simp only [Act.put]
          refine wpTill_take (i := 12) [12, 13, 14, 15, 17, 18, 19, 20] (v := ?_) rfl (by kernel_rfl) (by kernel_rfl) (by kernel_rfl) (by kernel_rfl) (fun _ _ _ h => h) (Or.inl ⟨by rfl, ?_⟩) (by assumption) ?_
          rotate_left
          · intro w' hSw
            go_simp
            all_goals with_reducible rfl
          simp only [Act.put]
          refine wpTill_take (i := 13) [13, 14, 15, 17, 18, 19, 20] (v := ?_) rfl (by kernel_rfl) (by kernel_rfl) (by kernel_rfl) (by kernel_rfl) (fun _ _ _ h => h) (Or.inl ⟨by rfl, ?_⟩) (by assumption) ?_
          rotate_left
          · intro w' hSw
            go_simp
            all_goals with_reducible rfl
          simp only [Act.put]
          refine wpTill_take (i := 14) [14, 15, 17, 18, 19, 20] (v := ?_) rfl (by kernel_rfl) (by kernel_rfl) (by kernel_rfl) (by kernel_rfl) (fun _ _ _ h => h) (Or.inl ⟨by rfl, ?_⟩) (by assumption) ?_
          rotate_left
          · intro w' hSw
            go_simp
            all_goals with_reducible rfl
          simp only [Act.put]
          refine wpTill_take (i := 16) [16, 17, 18, 19, 20] (v := ?_) rfl (by kernel_rfl) (by kernel_rfl) (by kernel_rfl) (by kernel_rfl) (fun _ _ _ h => h) (Or.inl ⟨by rfl, ?_⟩) (by assumption) ?_
          rotate_left
          · intro w' hSw
            go_simp
            all_goals with_reducible rfl
          simp only [Act.put]
          refine wpTill_take (i := 3) [3, 20] (v := ?_) rfl (by kernel_rfl) (by kernel_rfl) (by kernel_rfl) (by kernel_rfl) (fun _ _ _ h => h) (Or.inl ⟨by rfl, ?_⟩) (by assumption) ?_
          rotate_left
          · intro w' hSw
            go_simp
            all_goals with_reducible rfl
          simp only [Act.put]
          refine wpTill_take (i := 8) [8, 10, 11, 19, 20] (v := ?_) rfl (by kernel_rfl) (by kernel_rfl) (by kernel_rfl) (by kernel_rfl) (fun _ _ _ h => h) (Or.inl ⟨by rfl, ?_⟩) (by assumption) ?_
          rotate_left
          · intro w' hSw
            go_simp
            all_goals with_reducible rfl
          simp only [Act.put]
          refine wpTill_take (i := 15) [15, 17, 18, 19, 20] (v := ?_) rfl (by kernel_rfl) (by kernel_rfl) (by kernel_rfl) (by kernel_rfl) (fun _ _ _ h => h) (Or.inl ⟨by rfl, ?_⟩) (by assumption) ?_
          rotate_left
          · intro w' hSw
            go_simp
            all_goals with_reducible rfl
          simp only [Act.put]
          refine wpTill_take (i := 10) [10, 11, 19, 20] (v := ?_) rfl (by kernel_rfl) (by kernel_rfl) (by kernel_rfl) (by kernel_rfl) (fun _ _ _ h => h) (Or.inl ⟨by rfl, ?_⟩) (by assumption) ?_
          rotate_left
          · intro w' hSw
            go_simp
            all_goals with_reducible rfl
          simp only [Act.put]
          refine wpTill_take (i := 17) [17, 18, 19, 20] (v := ?_) rfl (by kernel_rfl) (by kernel_rfl) (by kernel_rfl) (by kernel_rfl) (fun _ _ _ h => h) (Or.inl ⟨by rfl, ?_⟩) (by assumption) ?_
          rotate_left
          · intro w' hSw
            go_simp
            all_goals with_reducible rfl
          simp only [Act.put]
          refine wpTill_take (i := 11) [11, 19, 20] (v := ?_) rfl (by kernel_rfl) (by kernel_rfl) (by kernel_rfl) (by kernel_rfl) (fun _ _ _ h => h) (Or.inl ⟨by rfl, ?_⟩) (by assumption) ?_
          rotate_left
          · intro w' hSw
            go_simp
            all_goals with_reducible rfl
          simp only [Act.put]
          refine wpTill_take (i := 18) [18, 19, 20] (v := ?_) rfl (by kernel_rfl) (by kernel_rfl) (by kernel_rfl) (by kernel_rfl) (fun _ _ _ h => h) (Or.inl ⟨by rfl, ?_⟩) (by assumption) ?_
          rotate_left
          · intro w' hSw
            go_simp
            all_goals with_reducible rfl
          simp only [Act.put]
          refine wpTill_one (i := 19) (by kernel_rfl) rfl (fun K hK => ?_)
          go_simp
          refine (HMA.out _ (Below.refl _ _).drew).mono ?_
          rintro e w8 ⟨rfl, hb8⟩
          have HB8 : Hid (Below w7.heap.size w7 w8) := below_drewd hb8
          clear hb8 hHeld
          go_wp2_with fail
          refine hK.out _ _ (fun _ => HB8.out) ?_
          clear hK K
          refine wpTill_one (i := 20) (by kernel_rfl) rfl (fun K hK => ?_)
          go_simp
          refine (HAM.out _ HB8.out).mono ?_
          rintro e w9 ⟨rfl, hR9⟩
          have HR9 := hid hR9
          clear hR9
          go_wp2_with fail
          refine hK.out _ _ (fun h => absurd rfl h) ?_
          clear hK K
          refine wpTill_done (by kernel_rfl) ?_ _
          refine NoPanic.normal ?_
          clear i0 i1 i2 i3 i4 i5 i6 i7 i8 i9 i10 j0 j1 j2 j3 j4 j5 j6 j7 j8 j9 j10 s3 s6
          go_wp2
          go_roundw
          case rel => exact ⟨k + 1, by omega, by go_num, HR9.out.1, HR9.out.2.1, HR9.out.2.2⟩
          case measure => simp [intOf]; omega
        have b2' : (fld q 1 == 2) = false := by simpa using c2
        clear hurZ u6Z
        by_cases c3 : fld q 1 = 3
        · have HD : Hid (doN T q i = buildR true T (rec T.es i) (fld q 3) (fld q 4) (fld q 5)) := by show _ = _; unfold doN; rw [if_neg c1, if_neg c2, if_pos c3]
          have b3 : (fld q 1 == 3) = true := by simpa using c3
          clear c1 c2 c3
          go_wp2_with fail
          refine (builds_calls W.heap.size p true T i (rec T.es i) (fld q 3) (fld q 4) (fld q 5) Z hil rfl hn3 (by rw [HIk.out.fr]; simp) HBL.out (by have := HIk.out.n0; have := HIk.out.n1; omega) (by have := HIk.out.a0; omega) (by have := HIk.out.a1; omega) HOW.out HON.out HSZZ.out HGZ.out).mono ?_
          rintro e w6 ⟨rfl, hG6, hb6, hf6⟩
          have HR6 := hid (HFZ.out w6 _ hG6 hb6 hf6 HD.out.symm)
          clear hG6 hb6 hf6 z1 z3 z4 z5
          go_wp2
          go_roundw
          case rel => exact ⟨k + 1, by omega, by go_num, HR6.out.1, HR6.out.2.1, HR6.out.2.2⟩
          case measure => simp [intOf]; omega
        have b3 : (fld q 1 == 3) = false := by simpa using c3
        by_cases c4 : fld q 1 = 4
        · have HD : Hid (doN T q i = stopR T i) := by show _ = _; unfold doN; rw [if_neg c1, if_neg c2, if_neg c3, if_pos c4]
          have b4 : (fld q 1 == 4) = true := by simpa using c4
          clear c1 c2 c3 c4
          go_wp2_with fail
          refine (tell_calls W.heap.size p true T i 0 0 0 0 Z hil hn2 HGZ.out).mono ?_
          rintro e w6 ⟨rfl, hG6, hb6, hf6⟩
          have HR6 := hid (HFZ.out w6 _ hG6 hb6 hf6 HD.out.symm)
          clear hG6 hb6 hf6 z1 z3 z4 z5
          go_wp2
          go_roundw
          case rel => exact ⟨k + 1, by omega, by go_num, HR6.out.1, HR6.out.2.1, HR6.out.2.2⟩
          case measure => simp [intOf]; omega
        have HD : Hid (doN T q i = T) := by show _ = _; unfold doN; rw [if_neg c1, if_neg c2, if_neg c3, if_neg c4]
        have b4 : (fld q 1 == 4) = false := by simpa using c4
        have HR6 := hid (HFZ.out Z _ HGZ.out (Below.refl _ _) (fr_below HGZ.out.lt (Below.refl _ _)) HD.out.symm)
        clear c1 c2 c3 c4
        go_wp2
        go_roundw
        case rel => exact ⟨k + 1, by omega, by go_num, HR6.out.1, HR6.out.2.1, HR6.out.2.2⟩
        case measure => simp [intOf]; omega
    · have hkz : ¬ (k : Int) < (l.length : Int) := by omega
      have hlk : l.take k = l := List.take_of_length_le (by omega)
      rw [hlk] at HGk HIk
      have HST : Hid (stepN s l = endO (ordsN s l) (idsE s.es)) := rfl
      obtain ⟨R, hR⟩ : ∃ R, stepN s l = R := ⟨_, rfl⟩
      have HRR := hid hR
      rw [hR] at HST
      clear hR hlk hkl HBO HL
      generalize ordsN s l = S at HGk HIk HST
      have hA := invN_arrive (invN_move HIk.out (idsE s.es)) (idsE s.es)
      have hSe := HIk.out.el
      have hgo := goneO HIk.out (idsE s.es)
      have hal : (arriveSO (moveSO S (idsE s.es)) (idsE s.es)).es.length = S.es.length := by unfold arriveSO moveSO arriveR; simp
      have HEN : Hid (Calls Try.prog 95 #[.pointer (some ⟨p, 0, none⟩), .slice oa (idsE s.es).length oc] wr fun e w' => e = .returned (.tuple #[]) ∧ GrE W.heap.size w' p true (endR true S (idsE s.es)) ∧ Below W.heap.size wr w') := by
        obtain ⟨uv, fv, bv, hg⟩ := HGk.out
        refine refEnds_calls W.heap.size p true S uv fv bv (idsE s.es) oa oc wr hg HBk.out.size (by omega) (by unfold idsE; rw [List.length_map]; omega) HOk.out.1 HOk.out.2 (fun i hi => wishOkN HIk.out hi) ?_ (by have := HIk.out.a0; omega) (by have := HIk.out.a1; omega) ?_ (by rw [HIk.out.fr]; simp) (by have := HIk.out.t0; have := HIk.out.t1; omega)
        · intro i hi _ h9
          rw [hgo] at h9 ⊢
          exact toilOkN hA (by omega) h9
        · intro i hi
          rw [hgo]
          exact hpN hA (by omega)
      have HEU := hid (endRO HIk.out (idsE s.es))
      rw [HEU.out, ← HST.out] at HEN
      have hszk := HBk.out.size
      clear hA hgo hal hSe HST HEU
      go_wp2_with fail
      refine HEN.out.mono ?_
      rintro e Y ⟨rfl, hGY, hbY⟩
      have HBY : Hid (Below W.heap.size W Y) := HBk.out.trans hbY
      obtain ⟨uv, fv, bv, hg⟩ := hGY
      obtain ⟨ua', uc', rfl, _, _, _⟩ := hg.er.open
      have HNE := hid (refNewer_calls W.heap.size p true R _ fv bv Y hg)
      have hq := (HBY.out.block (w.heap.size + 1) (by rw [HSW.out]; omega)).trans H1.out
      have HQ := hid hq
      have hqY : w.heap.size + 1 < Y.heap.size := (Array.getElem?_eq_some_iff.1 hq).1
      clear HEN hbY hg hq HGk HOk HBk
      go_wp2_with fail
      refine HNE.out.mono ?_
      rintro e w9 ⟨rfl, hr9, hb9⟩
      have hq9 := (hb9.block (w.heap.size + 1) hqY).trans HQ.out
      obtain ⟨q0, q1, q2, q3, q4, qf⟩ := five_cells hq9
      have g0 := qf 0
      have g1 := qf 1
      have g2 := qf 2
      have g3 := qf 3
      have g4 := qf 4
      have HR9 := hid hr9
      have HB9 : Hid (Below w.heap.size w w9) := HBW.out.trans ((HBY.out.trans (hb9.mono HBY.out.size)).mono (by rw [HSW.out]; omega))
      clear hq9 qf hr9 hb9 HNE
      go_wp2
      refine bodyPost_ret (v := .tuple #[newerV R.t R.g0 R.g1 R.nx (.slice ua' R.es.length uc'), .int .i64 0]) (by simp [results, Try.results53, go_sem, q0, q1, q2, q3, q4]) rfl ?_
      show ∃ uv, _ ∧ RowU w.heap.size (setFive w9 (w.heap.size + 1) (.int .i64 R.t) (.int .i64 R.g0) (.int .i64 R.g1) (.int .i64 R.nx) (.slice ua' R.es.length uc')) uv _ ∧ Below w.heap.size w (setFive w9 (w.heap.size + 1) (.int .i64 R.t) (.int .i64 R.g0) (.int .i64 R.g1) (.int .i64 R.nx) (.slice ua' R.es.length uc'))
      rw [HRR.out]
      have hsw := HSW.out
      exact ⟨_, rfl, row_five HR9.out (by omega) (by omega), below_five HB9.out (Nat.le_succ _)⟩
end Go.Proofs.Ytmnddahkbmlibaa
