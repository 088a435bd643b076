/- The reference: a tick of the elder game that is played. -/
import Derived.Test.YtgiieepfhohmhaaRefQ
namespace Go.Proofs.Ytgiieepfhohmhaa
open Go.RowKit Go.Maps

theorem GrE.lt {base : Nat} {w : World} {p : Nat} {nw : Bool} {s : St} (h : GrE base w p nw s) : p < w.heap.size := by
  obtain ⟨uv, fv, bv, h⟩ := h
  exact h.lt
theorem GrE.who {base : Nat} {w : World} {p : Nat} {nw : Bool} {s : St} (h : GrE base w p nw s) : ∃ ua uc, w.cell? ⟨p, 6, none⟩ = some (.slice ua s.es.length uc) ∧ Recs w ua 11 s.es := by
  obtain ⟨uv, fv, bv, h⟩ := h
  obtain ⟨ea, c, rfl, _, hr, _⟩ := h.er.open
  exact ⟨ea, c, h.cell 6, hr⟩
theorem row_sixP {w : World} {base base' b : Nat} {e : TypeId} {size : Nat} {v : Value} {n : Nat} {xs : List Value} {a0 a1 a2 a3 a4 a5 : Value} (h : w.ownsRow base e size v n xs) (hb : b < base) (hbb : base' ≤ base) : (setSix w b a0 a1 a2 a3 a4 a5).ownsRow base' e size v n xs :=
  own_mono (row_other (w' := setSix w b a0 a1 a2 a3 a4 a5) h (fun g hg => heap_six (fun x => by have := (World.ownsRow.lt h g hg).1; omega))) hbb
theorem fr_below {w w' : World} {p : Nat} (hp : p < w.heap.size) (hb : Below w.heap.size w w') : Fr w w' p := ⟨hb.size, fun k hk ha => ⟨hb.block k hk, ha.below hp hb⟩⟩
theorem fr_trans {a b c : World} {p : Nat} (h : Fr a b p) (h' : Fr b c p) : Fr a c p :=
  ⟨Nat.le_trans h.1 h'.1, fun k hk ha => by
    have h1 := h.2 k hk ha
    have h2 := h'.2 k (Nat.lt_of_lt_of_le hk h.1) h1.2
    exact ⟨h2.1.trans h1.1, h2.2⟩⟩

set_option maxRecDepth 100000 in
set_option maxHeartbeats 8000000 in
theorem stepR_good (s : St) (fa ea la : Option Addr) (fc ec lc : Nat) (l : List (List Int)) (w : World) (h : InE w s fa ea fc ec) (hl : Recs w la 7 l) (hc : checkE s.t s.g0 s.g1 s.nx s.free s.es = 0) (h8 : l.length ≤ 8) (ht : s.t ≠ 60) :
    Calls Try.prog 41 #[elderV s.t s.g0 s.g1 s.nx (.slice fa s.free.length fc) (.slice ea s.es.length ec), .slice la l.length lc] w fun e w' => ∃ fv ev bv, e = .returned (.tuple #[elderV (stepS s l).t (stepS s l).g0 (stepS s l).g1 (stepS s l).nx fv ev, bv, .int .i64 0]) ∧ Row w.heap.size w' ev (stepS s l).es ∧ NRow w.heap.size w' fv (stepS s l).free ∧ NRow w.heap.size w' bv (stepS s l).born ∧ Below w.heap.size w w' := by
  have hI := inv_of_check hc
  obtain ⟨W, hW⟩ : ∃ W, (w.alloc (.cells #[.int .i64 s.t, .int .i64 s.g0, .int .i64 s.g1, .int .i64 s.nx, .slice fa s.free.length fc, .slice ea s.es.length ec] 60)).alloc (.cells #[.int .i64 0, .int .i64 0, .int .i64 0, .int .i64 0, .slice none 0 0, .slice none 0 0] 60) = W := ⟨_, rfl⟩
  obtain ⟨hbW, hsW, hh0, hh1⟩ := step_boxes hW
  obtain ⟨x0, x1, x2, x3, x4, x5⟩ := elder_cells hh0
  have hin := h.below hbW
  have HO := hid (ofElder_calls s.t s.g0 s.g1 s.nx s.free fa ea fc ec s.es W (by have := hI.el; omega) (by have := hI.fl; omega) hin.rows hin.nums h.fn)
  have HBW := hid hbW
  have HSW := hid hsW
  have H0 := hid hh0
  have H1 := hid hh1
  have HU := hid (st0_up h.born)
  have HF := hid (faultU s)
  rw [hc] at HF
  have HBORN := hid h.born
  have HINV := hid hI
  have HL := hid (hl.below hbW)
  have h8z : ¬ (8 : Int) < (l.length : Int) := by omega
  have h60 : (s.t == 60) = false := by simpa using ht
  clear h hin hbW hsW hh0 hh1 hc hI hl ht
  go_enter Try.func41, Try.ntmps41
  go_wp2_with fail
  refine HO.out.mono ?_
  rintro e w1 ⟨p, rfl, hG1, hb1⟩
  rw [HU.out] at hG1
  have HC := hid (fault_calls W.heap.size p false (upS s) w1 hG1)
  rw [HF.out] at HC
  have HB1 := hid hb1
  have HG1 := hid hG1
  clear HO hG1 hb1 x0 x1 x2 x3 x4 x5 hW
  go_wp2_with fail
  refine HC.out.mono ?_
  rintro e w2 ⟨rfl, hb2⟩
  have hb12 : Below W.heap.size W w2 := HB1.out.trans (hb2.mono HB1.out.size)
  have hr := (hb12.block w.heap.size (by rw [HSW.out]; omega)).trans H0.out
  obtain ⟨r0, _, _, _, _, _⟩ := elder_cells hr
  have HB2 := hid hb12
  have hG2 := HG1.out.below hb2
  have HG2 := hid hG2
  have hsl : (upS s).es.length = s.es.length := by unfold upS; simp
  have hse := HINV.out.el
  have HI2 : Hid (∀ wx, Below w2.heap.size w2 wx → Calls Try.prog 86 #[.pointer (some ⟨p, 0, none⟩)] wx fun e w' => ∃ v, e = .returned v ∧ NRow wx.heap.size w' v (idsE s.es) ∧ Below wx.heap.size wx w') := fun wx hx => by
    obtain ⟨uv, fv, bv, hg⟩ := hG2.below hx
    obtain ⟨ua, uc, rfl, _, _, _⟩ := hg.er.open
    have := refIds_calls p false ua uc (upS s).es wx (hg.rg (by rw [hsl]; omega))
    have e : idsE (upS s).es = idsE s.es := idsU s.es
    rw [e] at this
    exact this
  clear HC hb2 hr hb12 HB1 HG1 hG2
  go_wp2_with fail
  refine (HI2.out w2 (Below.refl _ _)).mono ?_
  rintro e w3 ⟨ov, rfl, hold, hb3⟩
  obtain ⟨oa, oc, rfl, _, hon, hog⟩ := hold.open
  have HB3 : Hid (Below W.heap.size W w3) := HB2.out.trans (hb3.mono HB2.out.size)
  have HG3 : Hid (GrE W.heap.size w3 p false (upS (cmdsS s (l.take 0)))) := HG2.out.below hb3
  have HOO : Hid (OldOk w3 p oa (idsE s.es)) := by
    refine ⟨hon, fun b o e => ?_⟩
    obtain ⟨uv, fv, bv, hg⟩ := HG2.out
    subst e
    have h1 := World.ownsRow.lt hold b rfl
    exact ⟨h1.2, hg.apartNew hb3 h1.1⟩
  clear HI2 hold hb3 hon hog HB2 HG2 r0
  go_wp2_with fail
  go_loopw [10] (fun i wr => ∃ k : Nat, k ≤ l.length ∧ i = .int .i64 k ∧ Hid (GrE W.heap.size wr p false (upS (cmdsS s (l.take k)))) ∧ Hid (Below W.heap.size W wr) ∧ Hid (OldOk wr p oa (idsE s.es))) (fun i _ => l.length - (intOf i).toNat)
  case atStart => exact ⟨0, Nat.zero_le _, rfl, HG3, HB3, HOO⟩
  case round =>
    clear HG3 HB3 HOO
    obtain ⟨k, hk, rfl, HGk, HBk, HOk⟩ := hrel
    have HIk := hid (cmds_inv HINV.out HBORN.out (l.take k))
    have HBO := hid (cmds_born s l k)
    rw [HBORN.out] at HBO
    by_cases hkl : k < l.length
    · have hkz : (k : Int) < (l.length : Int) := by omega
      obtain ⟨b, o, rfl, hc⟩ := (HL.out.below HBk.out).at hkl
      have l0 : wr.cell? ⟨b, o + k * 7, none⟩ = some (.int .i64 (fld (rec l k) 0)) := hc 0 (by omega)
      have l1 := hc 1 (by omega)
      have l2 := hc 2 (by omega)
      have l3 := hc 3 (by omega)
      have l4 := hc 4 (by omega)
      have l5 := hc 5 (by omega)
      have l6 := hc 6 (by omega)
      have HNX := hid (cmds_next s hkl)
      have HCU := hid (cmdU HIk.out.el (rec l k))
      rw [← HNX.out] at HCU
      generalize rec l k = q at l0 l1 l2 l3 l4 l5 l6 HCU
      generalize hT : cmdsS s (l.take k) = T at HGk HIk HBO HCU
      obtain ⟨X, hX⟩ : ∃ X, wr.alloc (.cells (cmdC q) 69) = X := ⟨_, rfl⟩
      have hbX : Below wr.heap.size wr X := by rw [← hX]; exact (Below.refl _ _).alloc (Nat.le_refl _) _
      have hxX : X.heap[wr.heap.size]? = some (.cells (cmdC q) 69) := by rw [← hX]; exact heap_alloc_new _ _
      have hGX := HGk.out.below hbX
      have HOX := hid (HOk.out.below HGk.out.lt hbX)
      have HBX : Hid (Below W.heap.size W X) := HBk.out.trans (hbX.mono HBk.out.size)
      have HGX := hid hGX
      have hTl : (upS T).es.length = T.es.length := by unfold upS; simp
      have hTe := HIk.out.el
      obtain ⟨ua, uc, u6, hur⟩ := hGX.who
      rw [hTl] at u6
      have HUR := hid hur
      have HFIN : Hid (∀ w2 S, GrE W.heap.size w2 p false S → Below W.heap.size X w2 → Fr X w2 p → S = cmdR (upS T) q → GrE W.heap.size w2 p false (upS (cmdsS s (l.take (k + 1)))) ∧ Below W.heap.size W w2 ∧ OldOk w2 p oa (idsE s.es)) := fun w2 S hg hb hf e => by
        rw [e, HCU.out] at hg
        exact ⟨hg, HBX.out.trans hb, HOX.out.fr hf⟩
      have HXX := hid hX
      have hxc : ∀ j, X.cell? ⟨wr.heap.size, j, none⟩ = (cmdC q)[j]? := fun j => cell_of_row X wr.heap.size j _ _ _ hxX
      have y0 : X.cell? ⟨wr.heap.size, 0, none⟩ = some (.int .i64 (fld q 0)) := hxc 0
      have y1 : X.cell? ⟨wr.heap.size, 1, none⟩ = some (.int .i64 (fld q 1)) := hxc 1
      have y2 : X.cell? ⟨wr.heap.size, 2, none⟩ = some (.int .i64 (fld q 2)) := hxc 2
      have y3 : X.cell? ⟨wr.heap.size, 3, none⟩ = some (.int .i64 (fld q 3)) := hxc 3
      have y4 : X.cell? ⟨wr.heap.size, 4, none⟩ = some (.int .i64 (fld q 4)) := hxc 4
      have y5 : X.cell? ⟨wr.heap.size, 5, none⟩ = some (.int .i64 (fld q 5)) := hxc 5
      have y6 : X.cell? ⟨wr.heap.size, 6, none⟩ = some (.int .i64 (fld q 6)) := hxc 6
      have HWH := hid (who_calls p uc ua (upS T).es (fld q 2) X (by rw [hTl]; omega) (by rw [hTl]; exact u6) hur)
      have HSZ : Hid (W.heap.size ≤ X.heap.size) := HBX.out.size
      clear hc hX hbX hxX hGX hxc hur HGk HOk HBk HNX hT
      go_upto_region 12 with fail
      rw [HXX.out]
      clear l0 l1 l2 l3 l4 l5 l6
      go_wp2_with fail
      refine HWH.out.mono ?_
      rintro e w5 ⟨rfl, rfl⟩
      clear HWH
      have hpX := HGX.out.lt
      have HFD : Hid (∀ n, cmdR (upS T) q = upS T → GrE W.heap.size (w5.drewN n) p false (upS (cmdsS s (l.take (k + 1)))) ∧ Below W.heap.size W (w5.drewN n) ∧ OldOk (w5.drewN n) p oa (idsE s.es)) := fun n e => by
        have hb := below_drewN (Below.refl w5.heap.size w5) n
        exact HFIN.out _ (upS T) (HGX.out.below hb) (hb.mono HSZ.out) (fr_below hpX hb) e.symm
      by_cases hz : whoZ (fld q 2) (upS T).es < 0
      · have HE : Hid (cmdR (upS T) q = upS T) := by show _ = _; unfold cmdR; rw [if_pos hz]
        go_wp2_with fail
        go_quiet (fail)
        go_wp2
        go_roundw
        case rel => exact ⟨k + 1, by omega, by go_num, (HFD.out _ HE.out).1, (HFD.out _ HE.out).2.1, (HFD.out _ HE.out).2.2⟩
        case measure => simp [intOf]; omega
      obtain ⟨i, hi⟩ : ∃ i : Nat, whoZ (fld q 2) (upS T).es = i := ⟨(whoZ (fld q 2) (upS T).es).toNat, by omega⟩
      have hil : i < T.es.length := by have := (whoZ_bd (fld q 2) (upS T).es).2; rw [hTl] at this; omega
      have HCD : Hid (cmdR (upS T) q = if fld (rec (upS T).es i) 1 = fld q 0 then doR (upS T) q i else upS T) := by
        show _ = _
        unfold cmdR
        rw [if_neg hz, hi]
        rfl
      have HOW := hid (inv_okU HIk.out i hil)
      have hrT : rec (upS T).es i = unitE (rec T.es i) := recU hil
      obtain ⟨b2, o2, rfl, hc2⟩ := HUR.out.at (i := i) (by rw [hTl]; exact hil)
      have m1 := hc2 1 (by omega)
      have hiz : (i : Int) < (T.es.length : Int) := by omega
      have hi0 : ¬ (i : Int) < 0 := by omega
      rw [hi]
      clear hi hz hc2
      rw [hrT] at m1 HCD
      generalize hu : rec T.es i = u at m1 HCD HOW hrT
      have m1' : w5.cell? ⟨b2, o2 + i * 11 + 1, none⟩ = some (.int .i64 (fld u 1)) := m1
      have HCD' : Hid (cmdR (upS T) q = if fld u 1 = fld q 0 then doR (upS T) q i else upS T) := HCD.out
      clear m1 HCD
      by_cases hown : fld u 1 = fld q 0
      case neg =>
        have HE : Hid (cmdR (upS T) q = upS T) := by show _ = _; rw [HCD'.out, if_neg hown]
        have hnb : (fld u 1 != fld q 0) = true := by simpa using hown
        go_wp2_with fail
        go_quiet (fail)
        go_wp2
        go_roundw
        case rel => exact ⟨k + 1, by omega, by go_num, (HFD.out _ HE.out).1, (HFD.out _ HE.out).2.1, (HFD.out _ HE.out).2.2⟩
        case measure => simp [intOf]; omega
      case pos =>
        have HE : Hid (cmdR (upS T) q = doR (upS T) q i) := by show _ = _; rw [HCD'.out, if_pos hown]
        have hnb : (fld u 1 != fld q 0) = false := by simpa using hown
        clear hown HCD'
        go_wp2_with fail
        go_quiet (fail)
        obtain ⟨Z, hZ⟩ : ∃ Z, Z = w5.drewN nq := ⟨_, rfl⟩
        have hbZ : Below w5.heap.size w5 Z := by rw [hZ]; exact below_drewN (Below.refl _ _) nq
        rw [← hZ]
        have hwr5 : wr.heap.size < w5.heap.size := World.block_lt_of_cell? w5 _ y1
        have KY : ∀ j v, w5.cell? ⟨wr.heap.size, j, none⟩ = some v → Z.cell? ⟨wr.heap.size, j, none⟩ = some v := fun j v hv => (hbZ.cell (p := ⟨wr.heap.size, j, none⟩) hwr5).trans hv
        have z1 := KY 1 _ y1
        have z3 := KY 3 _ y3
        have z4 := KY 4 _ y4
        have z5 := KY 5 _ y5
        have z6 := KY 6 _ y6
        have HGZ := hid (HGX.out.below hbZ)
        have HSZZ : Hid (W.heap.size ≤ Z.heap.size) := Nat.le_trans HSZ.out hbZ.size
        have HFZ : Hid (∀ w2 S, GrE W.heap.size w2 p false S → Below W.heap.size Z w2 → Fr Z w2 p → S = doR (upS T) q i → GrE W.heap.size w2 p false (upS (cmdsS s (l.take (k + 1)))) ∧ Below W.heap.size W w2 ∧ OldOk w2 p oa (idsE s.es)) := fun w2 S hg hb hf e =>
          HFIN.out w2 S hg ((hbZ.mono HSZ.out).trans hb) (fr_trans (fr_below hpX hbZ) hf) (by rw [e, HE.out])
        have hil2 : i < (upS T).es.length := by rw [hTl]; exact hil
        have hn2 : (upS T).es.length ≤ 1000 := by rw [hTl]; omega
        have hn3 : (upS T).es.length ≤ 50 := by rw [hTl]; omega
        clear KY hZ hbZ y0 y1 y2 y3 y4 y5 y6 u6 m1' HFD HFIN HE hnb hTl
        by_cases c1 : fld q 1 = 1
        · have HD : Hid (doR (upS T) q i = goesR false (upS T) i (fld q 4) (fld q 5)) := by show _ = _; unfold doR; rw [if_pos c1]
          have b1 : (fld q 1 == 1) = true := by simpa using c1
          clear c1
          go_wp2_with fail
          refine (goes_calls W.heap.size p false (upS T) i (fld q 4) (fld q 5) Z hil2 hn2 HGZ.out).mono ?_
          rintro e w6 ⟨rfl, hG6, hb6, hf6⟩
          have HR6 := hid (HFZ.out w6 _ hG6 hb6 hf6 HD.out.symm)
          clear hG6 hb6 hf6 z1 z3 z4 z5 z6
          go_wp2
          go_roundw
          case rel => exact ⟨k + 1, by omega, by go_num, HR6.out.1, HR6.out.2.1, HR6.out.2.2⟩
          case measure => simp [intOf]; omega
        by_cases c2 : fld q 1 = 2
        · have HD : Hid (doR (upS T) q i = aimsR false (upS T) i (fld q 6) 2) := by show _ = _; unfold doR; rw [if_neg c1]; rw [if_pos c2]
          have b1 : (fld q 1 == 1) = false := by simpa using c1
          have b2 : (fld q 1 == 2) = true := by simpa using c2
          clear c1 c2
          go_wp2_with fail
          refine (aims_calls W.heap.size p false (upS T) i (fld q 6) 2 Z hil2 hn2 HGZ.out).mono ?_
          rintro e w6 ⟨rfl, hG6, hb6, hf6⟩
          have HR6 := hid (HFZ.out w6 _ hG6 hb6 hf6 HD.out.symm)
          clear hG6 hb6 hf6 z1 z3 z4 z5 z6
          go_wp2
          go_roundw
          case rel => exact ⟨k + 1, by omega, by go_num, HR6.out.1, HR6.out.2.1, HR6.out.2.2⟩
          case measure => simp [intOf]; omega
        by_cases c3 : fld q 1 = 3
        · have HD : Hid (doR (upS T) q i = aimsR false (upS T) i (fld q 6) 3) := by show _ = _; unfold doR; rw [if_neg c1]; rw [if_neg c2]; rw [if_pos c3]
          have b1 : (fld q 1 == 1) = false := by simpa using c1
          have b2 : (fld q 1 == 2) = false := by simpa using c2
          have b3 : (fld q 1 == 3) = true := by simpa using c3
          clear c1 c2 c3
          go_wp2_with fail
          refine (aims_calls W.heap.size p false (upS T) i (fld q 6) 3 Z hil2 hn2 HGZ.out).mono ?_
          rintro e w6 ⟨rfl, hG6, hb6, hf6⟩
          have HR6 := hid (HFZ.out w6 _ hG6 hb6 hf6 HD.out.symm)
          clear hG6 hb6 hf6 z1 z3 z4 z5 z6
          go_wp2
          go_roundw
          case rel => exact ⟨k + 1, by omega, by go_num, HR6.out.1, HR6.out.2.1, HR6.out.2.2⟩
          case measure => simp [intOf]; omega
        by_cases c4 : fld q 1 = 4
        · have HD : Hid (doR (upS T) q i = buildR false (upS T) (rec (upS T).es i) (fld q 3) (fld q 4) (fld q 5)) := by show _ = _; unfold doR; rw [if_neg c1]; rw [if_neg c2]; rw [if_neg c3]; rw [if_pos c4]
          have b1 : (fld q 1 == 1) = false := by simpa using c1
          have b2 : (fld q 1 == 2) = false := by simpa using c2
          have b3 : (fld q 1 == 3) = false := by simpa using c3
          have b4 : (fld q 1 == 4) = true := by simpa using c4
          clear c1 c2 c3 c4
          go_wp2_with fail
          refine (builds_calls W.heap.size p false (upS T) i (rec (upS T).es i) (fld q 3) (fld q 4) (fld q 5) Z hil2 rfl hn3 (by have := HIk.out.fl; show T.free.length ≤ 1000; omega) (by have := HBO.out; simp at this; show T.born.length ≤ 1000; omega) (by have := HIk.out.n0; have := HIk.out.n1; show 0 ≤ T.nx ∧ T.nx ≤ 3000; omega) (by have := HIk.out.a0; show 0 ≤ T.g0 ∧ T.g0 ≤ 2000; omega) (by have := HIk.out.a1; show 0 ≤ T.g1 ∧ T.g1 ≤ 2000; omega) (by rw [hrT]; exact HOW.out.1) (by rw [hrT]; exact HOW.out.2) HSZZ.out HGZ.out).mono ?_
          rintro e w6 ⟨rfl, hG6, hb6, hf6⟩
          have HR6 := hid (HFZ.out w6 _ hG6 hb6 hf6 HD.out.symm)
          clear hG6 hb6 hf6 z1 z3 z4 z5 z6
          go_wp2
          go_roundw
          case rel => exact ⟨k + 1, by omega, by go_num, HR6.out.1, HR6.out.2.1, HR6.out.2.2⟩
          case measure => simp [intOf]; omega
        by_cases c5 : fld q 1 = 5
        · have HD : Hid (doR (upS T) q i = stopR (upS T) i) := by show _ = _; unfold doR; rw [if_neg c1]; rw [if_neg c2]; rw [if_neg c3]; rw [if_neg c4]; rw [if_pos c5]
          have b1 : (fld q 1 == 1) = false := by simpa using c1
          have b2 : (fld q 1 == 2) = false := by simpa using c2
          have b3 : (fld q 1 == 3) = false := by simpa using c3
          have b4 : (fld q 1 == 4) = false := by simpa using c4
          have b5 : (fld q 1 == 5) = true := by simpa using c5
          clear c1 c2 c3 c4 c5
          go_wp2_with fail
          refine (tell_calls W.heap.size p false (upS T) i 0 0 0 0 Z hil2 hn2 HGZ.out).mono ?_
          rintro e w6 ⟨rfl, hG6, hb6, hf6⟩
          have HR6 := hid (HFZ.out w6 _ hG6 hb6 hf6 HD.out.symm)
          clear hG6 hb6 hf6 z1 z3 z4 z5 z6
          go_wp2
          go_roundw
          case rel => exact ⟨k + 1, by omega, by go_num, HR6.out.1, HR6.out.2.1, HR6.out.2.2⟩
          case measure => simp [intOf]; omega
        have HD : Hid (doR (upS T) q i = upS T) := by show _ = _; unfold doR; rw [if_neg c1, if_neg c2, if_neg c3, if_neg c4, if_neg c5]
        have b1 : (fld q 1 == 1) = false := by simpa using c1
        have b2 : (fld q 1 == 2) = false := by simpa using c2
        have b3 : (fld q 1 == 3) = false := by simpa using c3
        have b4 : (fld q 1 == 4) = false := by simpa using c4
        have b5 : (fld q 1 == 5) = false := by simpa using c5
        have HR6 := hid (HFZ.out Z _ HGZ.out (Below.refl _ _) (fr_below HGZ.out.lt (Below.refl _ _)) HD.out.symm)
        clear c1 c2 c3 c4 c5
        go_wp2
        go_roundw
        case rel => exact ⟨k + 1, by omega, by go_num, HR6.out.1, HR6.out.2.1, HR6.out.2.2⟩
        case measure => simp [intOf]; omega
    · have hkz : ¬ (k : Int) < (l.length : Int) := by omega
      have hlk : l.take k = l := List.take_of_length_le (by omega)
      rw [hlk] at HGk HIk
      have HST : Hid (stepS s l = endS (cmdsS s l) (wasF (idsE s.es))) := rfl
      obtain ⟨R, hR⟩ : ∃ R, stepS s l = R := ⟨_, rfl⟩
      have HRR := hid hR
      rw [hR] at HST
      clear hR hlk hkl HBO HL
      generalize cmdsS s l = S at HGk HIk HST
      have hM := HIk.out.mem
      have hA := inv_arrive (inv_move hM (wasF (idsE s.es))) (wasF (idsE s.es))
      have hSl : (upS S).es.length = S.es.length := by unfold upS; simp
      have hSe := HIk.out.el
      have hgo : arriveR (idsE s.es) (moveR false (upS S).es (idsE s.es)) = (arriveS (moveS S (wasF (idsE s.es))) (wasF (idsE s.es))).es.map unitE := goneU hM (idsE s.es)
      have hal : (arriveS (moveS S (wasF (idsE s.es))) (wasF (idsE s.es))).es.length = S.es.length := by unfold arriveS moveS; simp
      have HEN : Hid (Calls Try.prog 92 #[.pointer (some ⟨p, 0, none⟩), .slice oa (idsE s.es).length oc] wr fun e w' => e = .returned (.tuple #[]) ∧ GrE W.heap.size w' p false (endR false (upS S) (idsE s.es)) ∧ Below W.heap.size wr w') := by
        obtain ⟨uv, fv, bv, hg⟩ := HGk.out
        refine refEnds_calls W.heap.size p false (upS S) uv fv bv (idsE s.es) oa oc wr hg HBk.out.size (by omega) (by unfold idsE; rw [List.length_map]; omega) HOk.out.1 HOk.out.2 (fun i hi => wishOkU hM (by omega)) ?_ (by have := HIk.out.a0; show 0 ≤ S.g0 ∧ S.g0 ≤ 2000; omega) (by have := HIk.out.a1; show 0 ≤ S.g1 ∧ S.g1 ≤ 2000; omega) ?_ (by have := HIk.out.fl; show S.free.length ≤ 1000; omega) (by have := HIk.out.t0; have := HIk.out.t1; show 0 ≤ S.t ∧ S.t ≤ 1000; omega)
        · intro i hi _ h9
          rw [hgo] at h9 ⊢
          exact toilOkU hA (by omega) h9
        · intro i hi
          rw [hgo]
          exact hpU hA (by omega)
      have HEU := hid (endU hM (idsE s.es))
      rw [HEU.out, ← HST.out] at HEN
      have HRI : Hid (R.es.length ≤ 1000) := by
        show _ ≤ _
        have := (end_each HIk.out (wasF (idsE s.es))).2.1
        rw [HST.out]
        omega
      have hszk := HBk.out.size
      clear hM hA hgo hal hSl hSe HST HEU
      go_wp2_with fail
      refine HEN.out.mono ?_
      rintro e Y ⟨rfl, hGY, hbY⟩
      have HBY : Hid (Below W.heap.size W Y) := HBk.out.trans hbY
      obtain ⟨uv, fv, bv, hg⟩ := hGY
      have hpY := hg.lt
      obtain ⟨fa', fc', rfl, _, _, _⟩ := hg.fr.open
      obtain ⟨ba', bc', rfl, _, _, _⟩ := hg.br.open
      have HGY := hid hg
      have hbp := hg.bp
      have HEL : Hid (∀ wx, Below Y.heap.size Y wx → Calls Try.prog 93 #[.pointer (some ⟨p, 0, none⟩)] wx fun e w' => ∃ ev, e = .returned (elderV R.t R.g0 R.g1 R.nx (.slice fa' R.free.length fc') ev) ∧ Row wx.heap.size w' ev R.es ∧ Below wx.heap.size wx w') := fun wx hx =>
        refElder_calls W.heap.size p false (upS R) uv _ _ R.es wx (hg.below hx) rfl HRI.out
      have hq := (HBY.out.block (w.heap.size + 1) (by rw [HSW.out]; omega)).trans H1.out
      have HQ := hid hq
      have hqY : w.heap.size + 1 < Y.heap.size := (Array.getElem?_eq_some_iff.1 hq).1
      have hpq : p ≠ w.heap.size + 1 := by have := HSW.out; omega
      have k7 : ∀ w', Y.grownBy w' (some (w.heap.size + 1)) → w'.cell? ⟨p, 7, none⟩ = some (.slice ba' R.born.length bc') := fun w' h => (grown_cell h hpY hpq 7).trans (hg.cell 7)
      clear HEN hbY hg hq HGk HOk HBk
      go_wp2_with fail
      go_region_held3 (fun w' => Y.grownBy w' (some (w.heap.size + 1))) (first | with_reducible exact grown_drew _ _ | with_reducible exact HG9.out | with_reducible exact grown_set (grown_set (grown_set (grown_set (grown_set (grown_set HG9.out _ _) _ _) _ _) _ _) _ _) _ _)
        (first | (go_at_call 93; refine (HEL.out _ (Below.refl _ Y).drew).mono ?_; rintro e w9 ⟨ev, rfl, hr9, hb9⟩; obtain ⟨ea9, ec9, rfl, _, _, _⟩ := hr9.open; have hbY9 : Below Y.heap.size Y w9 := ⟨hb9.os, hb9.tape, hb9.output, hb9.size, hb9.block⟩; have HR9 := hid hr9; have HB9 := hid hbY9; have HG9 : Hid (Y.grownBy w9 (some (w.heap.size + 1))) := ⟨hbY9.os, hbY9.tape, hbY9.output, hbY9.size, fun k hk _ => hbY9.block k hk⟩; have hq9 := (hbY9.block _ hqY).trans HQ.out; obtain ⟨q0, q1, q2, q3, q4, q5⟩ := elder_cells hq9; have g0 := fun j => frozen_of_row w9 (w.heap.size + 1) j _ _ hq9; have HQ9 := hid hq9; clear hr9 hb9 hbY9 hq9))
      all_goals
        go_wp2
        refine bodyPost_ret (v := .tuple #[elderV R.t R.g0 R.g1 R.nx (.slice fa' R.free.length fc') (.slice ea9 R.es.length ec9), .slice ba' R.born.length bc', .int .i64 0]) (by simp [results, Try.results41, go_sem, q0, q1, q2, q3, q4, q5]) rfl ?_
        rw [HRR.out]
        have hG9 := HGY.out.below HB9.out
        have hr9 : Row Y.heap.size w9 _ R.es := HR9.out
        have hsw := HSW.out
        exact ⟨_, _, _, rfl, row_sixP (b := w.heap.size + 1) hr9 hqY (by omega), row_sixP (b := w.heap.size + 1) hG9.fr (by omega) (by omega), row_sixP (b := w.heap.size + 1) hG9.br (by omega) (by omega), below_six (b := w.heap.size + 1) (HBW.out.trans ((HBY.out.trans (HB9.out.mono HBY.out.size)).mono (by omega))) (Nat.le_succ _)⟩
end Go.Proofs.Ytgiieepfhohmhaa
