/- Package newer of the program: all move at once. -/
import Derived.BigQuiet
import Derived.Test.YtmnddahkbmlibaaNsMkN
namespace Go.Proofs.Ytmnddahkbmlibaa
open Go.RowKit Go.Maps
theorem wishN_on {s : St} (h : InvN s) {u : List Int} (hu : u ∈ s.es) {x y : Int} (hw : wishN (tgtR s.es u) u = some (x, y)) : (0 ≤ x ∧ x < 12) ∧ 0 ≤ y ∧ y < 12 := by
  obtain ⟨hb, _, rfl, rfl⟩ := wishN_some hw
  have hon := invN_on h hu
  have hh := headN_on h hu hb
  exact ⟨Pl.nearZ_bd _ _ ⟨hon.1, hh.1⟩, Pl.nearZ_bd _ _ ⟨hon.2, hh.2⟩⟩
theorem brd_two {w : World} {g L : Nat} {l : List Int} {o1 o2 : Nat} {v1 v2 : Value} (h : BrdB w L l) (hg : g ≠ L) : BrdB ((w.setCell ⟨g, o1, none⟩ v1).setCell ⟨g, o2, none⟩ v2) L l :=
  ((heap_setCell_other _ ⟨g, o2, none⟩ L v2 (fun e => hg e.symm)).trans (heap_setCell_other _ ⟨g, o1, none⟩ L v1 (fun e => hg e.symm))).trans h
theorem brd_lt {w : World} {L : Nat} {l : List Int} (h : BrdB w L l) : L < w.heap.size := (Array.getElem?_eq_some_iff.1 h).1
set_option maxRecDepth 100000 in
set_option maxHeartbeats 8000000 in
theorem moveN_calls (base p B : Nat) (uv : Value) (s : St) (o : Nat) (old : List Int) (w : World) (hI : InvN s) (ho : OldN s.es o old) (h : GmN base w p uv B s (whoK s.es s.es.length) o) :
    Calls Try.prog 107 #[.pointer (some ⟨p, 0, none⟩)] w fun e w' => e = .returned (.tuple #[]) ∧ GmN base w' p uv B (moveSO s old) (whoK s.es s.es.length) o ∧ Below base w w' := by
  have HG := hid h
  have HI := hid hI
  have HO := hid ho
  have hlt := h.lt
  have hbp := h.bp
  have hel := hI.el
  have hole := ho.le
  obtain ⟨ea, c, rfl, hcap, hrecs, hg0⟩ := h.er.open
  have HR := hid hrecs
  have HE0 := hid hg0
  have hmm := @run_makeMap Try.prog
  obtain ⟨V, hV⟩ : ∃ V, w.alloc (.cells Try.zeroCells166 166) = V := ⟨_, rfl⟩
  have hbV : Below w.heap.size w V := by rw [← hV]; exact (Below.refl _ _).alloc (Nat.le_refl _) _
  have hhV : BrdB V w.heap.size (List.replicate 144 0) := by
    unfold BrdB
    rw [← hV, ← brdC_zero]
    exact heap_alloc_new _ _
  have d4 := (h.below hbV).cell 4
  have HBV := hid hbV
  have HDV := hid hhV
  clear hrecs hg0 hbV hhV h hI ho
  go_enter Try.func107, Try.ntmps107
  go_wp2
  clear d4
  go_loopw [20] (fun i wr => ∃ k : Nat, k ≤ s.es.length ∧ i = .int .i64 k ∧ Hid (∃ l, BrdB wr w.heap.size l ∧ Brd s.es k l) ∧ Hid (Below w.heap.size w wr)) (fun i _ => s.es.length - (intOf i).toNat)
  case atStart => exact ⟨0, Nat.zero_le _, rfl, ⟨_, HDV.out, brd_zero _⟩, HBV⟩
  case round =>
    clear HBV HDV hV
    obtain ⟨k, hk, rfl, HBD, HBr⟩ := hrel
    by_cases hkl : k < s.es.length
    · have hltz : (k : Int) < (s.es.length : Int) := by omega
      obtain ⟨b, o', rfl, hc⟩ := (HR.out.below HBr.out).at hkl
      have l0 : wr.cell? ⟨b, o' + k * 11, none⟩ = some (.int .i64 (fld (rec s.es k) 0)) := hc 0 (by omega)
      have l1 := hc 1 (by omega)
      have l2 := hc 2 (by omega)
      have l3 := hc 3 (by omega)
      have l4 := hc 4 (by omega)
      have l5 := hc 5 (by omega)
      have l6 := hc 6 (by omega)
      have l7 := hc 7 (by omega)
      have l8 := hc 8 (by omega)
      have l9 := hc 9 (by omega)
      have l10 := hc 10 (by omega)
      have hon := invN_on HI.out (rec_mem hkl)
      unfold OnU at hon
      obtain ⟨l, hl1, hl2⟩ := HBD.out
      obtain ⟨xn, hxn⟩ : ∃ xn : Nat, fld (rec s.es k) 3 = xn := ⟨(fld (rec s.es k) 3).toNat, by omega⟩
      obtain ⟨yn, hyn⟩ : ∃ yn : Nat, fld (rec s.es k) 4 = yn := ⟨(fld (rec s.es k) 4).toNat, by omega⟩
      have hx12 : xn < 12 := by omega
      have hy12 : yn < 12 := by omega
      have HBN := hid (brd_next hl2 hkl hx12 hy12 hxn hyn)
      have hidx : yn * 12 + xn < l.length := by rw [hl2.1]; omega
      have hcnt := hl2.2 xn yn hx12 hy12
      have hcle := List.countP_le_length (p := isAt (xn : Int) (yn : Int)) (l := s.es.take k)
      rw [List.length_take] at hcle
      generalize rec s.es k = u at l0 l1 l2 l3 l4 l5 l6 l7 l8 l9 l10 hxn hyn
      obtain ⟨X, hX⟩ : ∃ X, wr.alloc (.cells (unitC u) 110) = X := ⟨_, rfl⟩
      have hbX : Below wr.heap.size wr X := by rw [← hX]; exact (Below.refl _ _).alloc (Nat.le_refl _) _
      have hhX : X.heap[wr.heap.size]? = some (.cells (unitC u) 110) := by rw [← hX]; exact heap_alloc_new _ _
      have HWX : Hid (Below w.heap.size w X) := HBr.out.trans (hbX.mono HBr.out.size)
      have hdX := hl1.below hbX
      have x3 : X.cell? ⟨wr.heap.size, 3, none⟩ = some (.int .i64 xn) := by rw [← hxn]; exact cell_of_row X _ 3 _ _ _ hhX
      have x4 : X.cell? ⟨wr.heap.size, 4, none⟩ = some (.int .i64 yn) := by rw [← hyn]; exact cell_of_row X _ 4 _ _ _ hhX
      have xb := hdX.cell hidx
      have xf := hdX.frozen (yn * 12 + xn)
      have HDX := hid hdX
      have HXX := hid hX
      have hxz : (xn : Int) < 12 := by omega
      have hyz : (yn : Int) < 12 := by omega
      generalize fld l (yn * 12 + xn) = cv at xb HBN hcnt
      have hwr : IntKind.i64.wrap (cv + 1) = cv + 1 := IntWalk.i64_in _ ⟨by omega, by omega⟩
      clear hc hon hl1 hl2 hX hbX hhX hdX hcnt hcle HBD HBr hxn hyn
      go_upto_region 4 with fail
      rw [HXX.out]
      clear l0 l1 l2 l3 l4 l5 l6 l7 l8 l9 l10
      go_region
      all_goals
        go_wp2
        go_roundw
        case rel => exact ⟨k + 1, by omega, by go_num, ⟨_, HDX.out.set (yn * 12 + xn) (cv + 1), HBN.out⟩, (HWX.out.setCell (p := ⟨w.heap.size, yn * 12 + xn, none⟩) (Nat.le_refl _) _).drew⟩
        case measure => simp [intOf]; omega
    · have hltz : ¬ (k : Int) < (s.es.length : Int) := by omega
      have hke : k = s.es.length := by omega
      subst hke
      obtain ⟨wa, rfl⟩ : ∃ x, x = wr := ⟨_, rfl⟩
      obtain ⟨M, hM⟩ : ∃ M, wa.alloc (.map #[] 0) = M := ⟨_, rfl⟩
      have hbM : Below wa.heap.size wa M := by rw [← hM]; exact (Below.refl _ _).alloc (Nat.le_refl _) _
      have hP0 : PM M wa.heap.size inV [] := by rw [← hM]; exact PM.made wa inV
      have hBM : Below w.heap.size w M := HBr.out.trans (hbM.mono HBr.out.size)
      have HDM : Hid (∃ l, BrdB M w.heap.size l ∧ BrdW s.es 0 l) := by obtain ⟨l, h1, h2⟩ := HBD.out; exact ⟨l, h1.below hbM, brdW_zero h2⟩
      have hLm : w.heap.size < wa.heap.size := by obtain ⟨l, h1, h2⟩ := HBD.out; exact brd_lt h1
      have hGM := HG.out.below hBM
      have d4 := hGM.cell 4
      have d6 := hGM.cell 6
      have hoc : (o : Int) ≤ (c : Int) := by omega
      have ho0 : (0 : Int) ≤ (o : Int) := by omega
      have hoc' : o ≤ c := by omega
      have HP0 := hid hP0
      have HBM := hid hBM
      clear hbM hP0 hBM hGM HBD HBr hkl hk
      go_wp2_with fail
      go_quiet (fail)
      clear d4 d6
      have HBq : Hid (Below w.heap.size w (M.drewN nq)) := below_drewN HBM.out nq
      have HPq : Hid (PM (M.drewN nq) wa.heap.size inV []) := HP0.out.below (below_drewN (Below.refl _ _) nq)
      have HDq : Hid (∃ l, BrdB (M.drewN nq) w.heap.size l ∧ BrdW s.es 0 l) := by obtain ⟨l, h1, h2⟩ := HDM.out; exact ⟨l, h1.below (below_drewN (Below.refl _ _) nq), h2⟩
      clear HBM HP0 HDM hM
      generalize M.drewN nq = wq at HBq HPq HDq ⊢
      go_wp2
      go_loopw [47] (fun i wr => ∃ (k : Nat) (Lw : List (Int × Value)), k ≤ o ∧ i = .int .i64 k ∧ Hid (∃ l, BrdB wr w.heap.size l ∧ BrdW s.es k l) ∧ Hid (PM wr wa.heap.size inV Lw) ∧ Hid (WishW s.es k Lw) ∧ Hid (Below w.heap.size w wr)) (fun i _ => o - (intOf i).toNat)
      case atStart => exact ⟨0, [], Nat.zero_le _, rfl, HDq, HPq, wishW_zero _, HBq⟩
      case round =>
        clear HBq HPq HDq
        obtain ⟨k, Lw, hk, rfl, HDr, HPr, HWr, HBr⟩ := hrel
        by_cases hko : k < o
        · have hkz : (k : Int) < (o : Int) := by omega
          have hkl : k < s.es.length := by omega
          have hkl' : (k : Int) < (s.es.length : Int) := by omega
          obtain ⟨b, o', rfl, hc⟩ := (HR.out.below HBr.out).at hkl
          have l0 : wr.cell? ⟨b, o' + k * 11, none⟩ = some (.int .i64 (fld (rec s.es k) 0)) := hc 0 (by omega)
          have l1 := hc 1 (by omega)
          have l2 := hc 2 (by omega)
          have l3 := hc 3 (by omega)
          have l4 := hc 4 (by omega)
          have l5 := hc 5 (by omega)
          have l6 := hc 6 (by omega)
          have l7 := hc 7 (by omega)
          have l8 := hc 8 (by omega)
          have l9 := hc 9 (by omega)
          have l10 := hc 10 (by omega)
          have hm := rec_mem hkl
          have HBn := hid (fun l => @brdW_none s.es k hkl l)
          have HBs := hid (fun l => @brdW_some s.es k hkl l)
          have HWn := hid (fun h => wishW_none (es := s.es) (k := k) HWr.out h)
          have HWs := hid (fun q h => @wishW_some s.es k hkl (uniq_of_up HI.out.up) Lw HWr.out q h)
          have HON := hid (fun x y h => @wishN_on s HI.out (rec s.es k) hm x y h)
          have hsr := HPr.out.lt
          have hWI : ∀ X, Below w.heap.size w X → Calls Try.prog 159 #[.pointer (some ⟨p, 0, none⟩), unitV (rec s.es k)] X fun e w' => ∃ v, e = .returned v ∧ wishRN (tgtR s.es (rec s.es k)) (rec s.es k) v ∧ Below X.heap.size X w' := fun X hX =>
            wishN_calls base p B (.slice (some ⟨b, o', none⟩) s.es.length c) s _ o (rec s.es k) _ X (by omega) (invN_on HI.out hm) (aimN_of HI.out hkl) (fun hb => headN_on HI.out hm hb) (HG.out.below hX)
          have HWI := hid hWI
          generalize rec s.es k = u at l0 l1 l2 l3 l4 l5 l6 l7 l8 l9 l10 HBn HBs HWn HWs HON HWI
          obtain ⟨X, hX⟩ : ∃ X, wr.alloc (.cells (unitC u) 110) = X := ⟨_, rfl⟩
          have hbX : Below wr.heap.size wr X := by rw [← hX]; exact (Below.refl _ _).alloc (Nat.le_refl _) _
          have hhX : X.heap[wr.heap.size]? = some (.cells (unitC u) 110) := by rw [← hX]; exact heap_alloc_new _ _
          have HBX : Hid (Below w.heap.size w X) := HBr.out.trans (hbX.mono HBr.out.size)
          have HPX := hid (HPr.out.below hbX)
          have HDX : Hid (∃ l, BrdB X w.heap.size l ∧ BrdW s.es k l) := by obtain ⟨l, h1, h2⟩ := HDr.out; exact ⟨l, h1.below hbX, h2⟩
          have hsX : wr.heap.size < X.heap.size := (Array.getElem?_eq_some_iff.1 hhX).1
          have x0 : X.cell? ⟨wr.heap.size, 0, none⟩ = some (.int .i64 (fld u 0)) := cell_of_row X _ 0 _ _ _ hhX
          have x1 : X.cell? ⟨wr.heap.size, 1, none⟩ = some (.int .i64 (fld u 1)) := cell_of_row X _ 1 _ _ _ hhX
          have x2 : X.cell? ⟨wr.heap.size, 2, none⟩ = some (.int .i64 (fld u 2)) := cell_of_row X _ 2 _ _ _ hhX
          have x3 : X.cell? ⟨wr.heap.size, 3, none⟩ = some (.int .i64 (fld u 3)) := cell_of_row X _ 3 _ _ _ hhX
          have x4 : X.cell? ⟨wr.heap.size, 4, none⟩ = some (.int .i64 (fld u 4)) := cell_of_row X _ 4 _ _ _ hhX
          have x5 : X.cell? ⟨wr.heap.size, 5, none⟩ = some (.int .i64 (fld u 5)) := cell_of_row X _ 5 _ _ _ hhX
          have x6 : X.cell? ⟨wr.heap.size, 6, none⟩ = some (.int .i64 (fld u 6)) := cell_of_row X _ 6 _ _ _ hhX
          have x7 : X.cell? ⟨wr.heap.size, 7, none⟩ = some (.int .i64 (fld u 7)) := cell_of_row X _ 7 _ _ _ hhX
          have x8 : X.cell? ⟨wr.heap.size, 8, none⟩ = some (.int .i64 (fld u 8)) := cell_of_row X _ 8 _ _ _ hhX
          have x9 : X.cell? ⟨wr.heap.size, 9, none⟩ = some (.int .i64 (fld u 9)) := cell_of_row X _ 9 _ _ _ hhX
          have x10 : X.cell? ⟨wr.heap.size, 10, none⟩ = some (.int .i64 (fld u 10)) := cell_of_row X _ 10 _ _ _ hhX
          have HHX := hid hhX
          have HXX := hid hX
          have HWC := hid (HWI.out X HBX.out)
          clear hc hm hX hbX hhX HDr HPr HWr HBr hWI HWI
          go_upto_region 10 with fail
          rw [HXX.out]
          clear l0 l1 l2 l3 l4 l5 l6 l7 l8 l9 l10
          go_wp2_with fail
          refine HWC.out.mono ?_
          rintro e w3 ⟨v, rfl, ⟨qx, qy, rfl, hq⟩, hb3⟩
          have HQ := hid hq
          have hh3 := (hb3.block _ hsX).trans HHX.out
          have HB3 : Hid (Below w.heap.size w w3) := HBX.out.trans (hb3.mono HBX.out.size)
          have hs3 : wr.heap.size < w3.heap.size := (Array.getElem?_eq_some_iff.1 hh3).1
          obtain ⟨Y, hY⟩ : ∃ Y, w3.alloc (.cells #[.int .i64 qx, .int .i64 qy] 214) = Y := ⟨_, rfl⟩
          have hbY : Below w3.heap.size w3 Y := by rw [← hY]; exact (Below.refl _ _).alloc (Nat.le_refl _) _
          have hYh : Y.heap[w3.heap.size]? = some (.cells #[.int .i64 qx, .int .i64 qy] 214) := by rw [← hY]; exact heap_alloc_new _ _
          have hb3Y : Below X.heap.size X Y := hb3.trans (hbY.mono hb3.size)
          have HPY := hid (HPX.out.below hb3Y)
          have HDY : Hid (∃ l, BrdB Y w.heap.size l ∧ BrdW s.es k l) := by obtain ⟨l, h1, h2⟩ := HDX.out; exact ⟨l, h1.below hb3Y, h2⟩
          have HBY : Hid (Below w.heap.size w Y) := HBX.out.trans (hb3Y.mono HBX.out.size)
          have y0 : Y.cell? ⟨wr.heap.size, 0, none⟩ = some (.int .i64 (fld u 0)) := cell_of_row Y _ 0 _ _ _ ((hbY.block _ hs3).trans hh3)
          have p0 : Y.cell? ⟨w3.heap.size, 0, none⟩ = some (.int .i64 qx) := cell_of_row Y _ 0 _ _ _ hYh
          have p1 : Y.cell? ⟨w3.heap.size, 1, none⟩ = some (.int .i64 qy) := cell_of_row Y _ 1 _ _ _ hYh
          have hYs : w3.heap.size < Y.heap.size := (Array.getElem?_eq_some_iff.1 hYh).1
          have HYH := hid hYh
          have HYY := hid hY
          clear x0 x1 x2 x3 x4 x5 x6 x7 x8 x9 x10 HWC hq hb3 hh3 hb3Y hbY hYh HPX HDX HBX HHX HB3 hY HXX
          go_upto_region 11 with fail
          rw [HYY.out]
          cases hwi : wishN (tgtR s.es u) u with
          | none =>
            have HD4 : Hid (∃ l, BrdB Y w.heap.size l ∧ BrdW s.es (k + 1) l) := by obtain ⟨l, h1, h2⟩ := HDY.out; exact ⟨l, h1, HBn.out l h2 hwi⟩
            have HW4 := hid (HWn.out hwi)
            clear hwi
            go_wp2
            go_roundw
            case rel => exact ⟨k + 1, Lw, by omega, by go_num, HD4, HPY, HW4, HBY⟩
            case measure => simp [intOf]; omega
          | some q =>
            have hqe := HQ.out q hwi
            subst hqe
            have hon := HON.out qx qy hwi
            obtain ⟨xn, hxn⟩ : ∃ xn : Nat, qx = xn := ⟨qx.toNat, by omega⟩
            obtain ⟨yn, hyn⟩ : ∃ yn : Nat, qy = yn := ⟨qy.toNat, by omega⟩
            subst hxn hyn
            have hx12 : xn < 12 := by omega
            have hy12 : yn < 12 := by omega
            have hxz : (xn : Int) < 12 := by omega
            have hyz : (yn : Int) < 12 := by omega
            have HW4 := hid (HWs.out _ hwi)
            obtain ⟨l, hl1, hl2⟩ := HDY.out
            have HB4 := hid (HBs.out l hl2 hx12 hy12 hwi)
            have hidx : yn * 12 + xn < l.length := by rw [hl2.1]; omega
            have hcnt := hl2.2 xn yn hx12 hy12
            have hcle := claimN_le s.es k xn yn
            obtain ⟨w5, hr5, hp5, hg5⟩ := PM.put kind_wishesN HPY.out (fld u 0) (plV ((xn : Int), (yn : Int)))
            have hs5 : Y.heap.size ≤ w5.heap.size := hg5.size
            have hd5 : BrdB w5 w.heap.size l := (hg5.block w.heap.size (brd_lt hl1) (by simp; omega)).trans hl1
            have hh5 : w5.heap[w3.heap.size]? = some (.cells #[.int .i64 (xn : Int), .int .i64 (yn : Int)] 214) := (hg5.block _ hYs (by simp; omega)).trans HYH.out
            have HB5 : Hid (Below w.heap.size w w5) := HBY.out.trans (grown_to_below hg5 (by omega) (by omega))
            have xb := hd5.cell hidx
            have xf := hd5.frozen (yn * 12 + xn)
            have q0 : w5.cell? ⟨w3.heap.size, 0, none⟩ = some (.int .i64 xn) := cell_of_row w5 _ 0 _ _ _ hh5
            have q1 : w5.cell? ⟨w3.heap.size, 1, none⟩ = some (.int .i64 yn) := cell_of_row w5 _ 1 _ _ _ hh5
            generalize fld l (yn * 12 + xn) = cv at xb HB4 hcnt
            have hwr : IntKind.i64.wrap (cv + 1) = cv + 1 := IntWalk.i64_in _ ⟨by omega, by omega⟩
            have HD5 := hid hd5
            have HP6 : Hid (∀ v, PM (w5.setCell ⟨w.heap.size, yn * 12 + xn, none⟩ v) wa.heap.size inV (putL (fld u 0) (plV ((xn : Int), (yn : Int))) Lw)) := fun v => hp5.other (heap_setCell_other w5 ⟨w.heap.size, yn * 12 + xn, none⟩ wa.heap.size v (fun e => by have : wa.heap.size = w.heap.size := e; omega))
            clear hon hwi hl1 hl2 hcnt hcle hp5 hg5 hd5 hh5 HDY
            go_wp2_with fail
            clear y0 p0 p1 hr5
            go_region
            all_goals
              go_wp2
              go_roundw
              case rel => exact ⟨k + 1, _, by omega, by go_num, ⟨_, HD5.out.set (yn * 12 + xn) (cv + 1), HB4.out⟩, HP6.out _, HW4, (HB5.out.setCell (p := ⟨w.heap.size, yn * 12 + xn, none⟩) (Nat.le_refl _) _).drew⟩
              case measure => simp [intOf]; omega
        · have hkz : ¬ (k : Int) < (o : Int) := by omega
          have hke : k = o := by omega
          subst hke
          have hGr := HG.out.below HBr.out
          have d4 := hGr.cell 4
          have HG0 : Hid (GmN base wr p (.slice ea s.es.length c) B { s with es := mapK (moveO s.es old) s.es 0 } (whoK s.es s.es.length) k) := by
            show GmN _ _ _ _ _ _ _ _
            rw [mapK_zero]
            exact hGr
          have HB0 : Hid (Below base w wr) := HBr.out.mono (by omega)
          obtain ⟨l, hl1, hl2⟩ := HDr.out
          have HL1 := hid hl1
          have HL2 := hid hl2
          clear hGr hko hk hl1 hl2 HDr
          go_wp2
          clear d4
          go_loopw [79] (fun i wr => ∃ j : Nat, j ≤ s.es.length ∧ i = .int .i64 j ∧ Hid (GmN base wr p (.slice ea s.es.length c) B { s with es := mapK (moveO s.es old) s.es j } (whoK s.es s.es.length) k) ∧ Hid (Below base w wr) ∧ Hid (PM wr wa.heap.size inV Lw) ∧ Hid (BrdB wr w.heap.size l)) (fun i _ => s.es.length - (intOf i).toNat)
          case atStart => exact ⟨0, Nat.zero_le _, rfl, HG0, HB0, HPr, HL1⟩
          case round =>
            clear HG0 HB0 HPr HL1 HBr
            obtain ⟨j, hj, rfl, HGj, HBj, HPj, HLj⟩ := hrel
            by_cases hjl : j < s.es.length
            · have hjz : (j : Int) < (s.es.length : Int) := by omega
              have hlj : (mapK (moveO s.es old) s.es j).length = s.es.length := mapK_length _ _ hj
              obtain ⟨g, rfl, hbg, hgl⟩ := HE0.out (by omega)
              have hjl2 : j < ({ s with es := mapK (moveO s.es old) s.es j } : St).es.length := by show j < (mapK (moveO s.es old) s.es j).length; omega
              obtain ⟨hc, hf⟩ := HGj.out.er.cells hjl2
              have hrj : rec ({ s with es := mapK (moveO s.es old) s.es j } : St).es j = rec s.es j := by show rec (mapK (moveO s.es old) s.es j) j = _; rw [mapK_rec _ _ hj hjl, if_neg (by omega)]
              rw [hrj] at hc
              have l0 : wr.cell? ⟨g, j * 11, none⟩ = some (.int .i64 (fld (rec s.es j) 0)) := hc 0 (by omega)
              have l3 := hc 3 (by omega)
              have l4 := hc 4 (by omega)
              have f3 := hf (j * 11 + 3)
              have f4 := hf (j * 11 + 4)
              have d4 := HGj.out.cell 4
              have HRJ := hid hrj
              have hgr : g < wr.heap.size := World.block_lt_of_cell? wr _ l3
              have hsr := HPj.out.lt
              have hLr := brd_lt HLj.out
              have HLO := hid (PM.lookOk kind_wishesN HPj.out (fld (rec s.es j) 0))
              rw [wishW_old HO.out HWr.out hjl] at HLO
              have hpr := HGj.out.lt
              have hgw : g ≠ wa.heap.size ∧ g ≠ w.heap.size := ⟨by omega, by omega⟩
              have hszb : base ≤ wr.heap.size := by omega
              clear hc hf hrj
              cases hwi : wishO s.es old (rec s.es j) with
              | none =>
                have HS : Hid (mapK (moveO s.es old) s.es (j + 1) = mapK (moveO s.es old) s.es j) := mapK_same _ _ hjl (moveO_none hwi)
                have hlo := HLO.out
                rw [hwi] at hlo
                have hlo' : (Instr.lookup 212 (.map (some wa.heap.size)) (.int .i64 (fld (rec s.es j) 0)) true).run Try.prog wr = .ok (.tuple #[.agg #[.int .i64 0, .int .i64 0], .bool false]) wr := hlo
                clear hlo hwi HLO
                have hb4 : ∀ n, Below wr.heap.size wr ((wr.alloc (.cells #[.int .i64 0, .int .i64 0] 214)).drewN n) := fun n => below_drewN ((Below.refl _ _).alloc (Nat.le_refl _) _) n
                have HG4 : Hid (∀ n, GmN base ((wr.alloc (.cells #[.int .i64 0, .int .i64 0] 214)).drewN n) p (.slice (some ⟨g, 0, none⟩) s.es.length c) B { s with es := mapK (moveO s.es old) s.es (j + 1) } (whoK s.es s.es.length) k) := fun n => by
                  rw [HS.out]
                  exact HGj.out.below (hb4 n)
                have HB4 := hid hb4
                clear hb4
                go_wp2_with fail
                go_quiet (fail)
                go_wp2
                go_roundw
                case rel => exact ⟨j + 1, by omega, by go_num, HG4.out _, HBj.out.trans ((HB4.out _).mono hszb), HPj.out.below (HB4.out _), HLj.out.below (HB4.out _)⟩
                case measure => simp [intOf]; omega
              | some q =>
                obtain ⟨qx, qy⟩ := q
                have hlo := HLO.out
                rw [hwi] at hlo
                have hon := wishO_on HI.out (rec_mem hjl) hwi
                have HMU := hid (moveO_some hwi)
                obtain ⟨xn, hxn⟩ : ∃ xn : Nat, qx = xn := ⟨qx.toNat, by omega⟩
                obtain ⟨yn, hyn⟩ : ∃ yn : Nat, qy = yn := ⟨qy.toNat, by omega⟩
                subst hxn hyn
                have hlo' : (Instr.lookup 212 (.map (some wa.heap.size)) (.int .i64 (fld (rec s.es j) 0)) true).run Try.prog wr = .ok (.tuple #[.agg #[.int .i64 xn, .int .i64 yn], .bool true]) wr := hlo
                have hx12 : xn < 12 := by omega
                have hy12 : yn < 12 := by omega
                have hxz : (xn : Int) < 12 := by omega
                have hyz : (yn : Int) < 12 := by omega
                have hidx : yn * 12 + xn < l.length := by rw [HL2.out.1]; omega
                have hcnt := HL2.out.2 xn yn hx12 hy12
                rw [claimN_old HO.out] at hcnt
                obtain ⟨Z, hZ⟩ : ∃ Z, wr.alloc (.cells #[.int .i64 (xn : Int), .int .i64 (yn : Int)] 214) = Z := ⟨_, rfl⟩
                have hbZ : Below wr.heap.size wr Z := by rw [← hZ]; exact (Below.refl _ _).alloc (Nat.le_refl _) _
                have hZh : Z.heap[wr.heap.size]? = some (.cells #[.int .i64 (xn : Int), .int .i64 (yn : Int)] 214) := by rw [← hZ]; exact heap_alloc_new _ _
                have zb := (HLj.out.below hbZ).cell hidx
                rw [hcnt] at zb
                have z0 : Z.cell? ⟨wr.heap.size, 0, none⟩ = some (.int .i64 xn) := cell_of_row Z _ 0 _ _ _ hZh
                have z1 : Z.cell? ⟨wr.heap.size, 1, none⟩ = some (.int .i64 yn) := cell_of_row Z _ 1 _ _ _ hZh
                have HBZ := hid hbZ
                have HZH := hid hZh
                have HZZ := hid hZ
                clear hlo HLO hwi hon hcnt hbZ hZh hZ
                by_cases hcl : claimsO s.es old xn yn = 1
                · have HN : Hid (mapK (moveO s.es old) s.es (j + 1) = (mapK (moveO s.es old) s.es j).set j (updR 11 (updR 11 (rec s.es j) 3 xn) 4 yn)) := by
                    show _ = _
                    rw [mapK_next _ _ hjl, HMU.out, if_pos hcl]
                  have hclz : (((claimsO s.es old xn yn : Nat) : Int) == 1) = true := by rw [hcl]; rfl
                  go_upto_region 20 with fail
                  rw [HZZ.out]
                  go_quiet (fail)
                  obtain ⟨U, hU⟩ : ∃ U, Z.drewN nq = U := ⟨_, rfl⟩
                  have hbU : Below wr.heap.size wr U := by rw [← hU]; exact below_drewN HBZ.out nq
                  have hUh : U.heap[wr.heap.size]? = some (.cells #[.int .i64 (xn : Int), .int .i64 (yn : Int)] 214) := by rw [← hU]; exact HZH.out
                  rw [hU]
                  have hG5 := gmN_two (HGj.out.below hbU) hjl2 xn yn
                  rw [HRJ.out] at hG5
                  have HG5 : Hid (GmN base ((U.setCell ⟨g, j * 11 + 3, none⟩ (.int .i64 xn)).setCell ⟨g, j * 11 + 4, none⟩ (.int .i64 yn)) p (.slice (some ⟨g, 0, none⟩) s.es.length c) B { s with es := mapK (moveO s.es old) s.es (j + 1) } (whoK s.es s.es.length) k) := by
                    show GmN _ _ _ _ _ _ _ _
                    rw [HN.out]
                    exact hG5
                  have HP5 := hid (pm_two (o1 := j * 11 + 3) (o2 := j * 11 + 4) (v1 := .int .i64 xn) (v2 := .int .i64 yn) (HPj.out.below hbU) hgw.1)
                  have HL5 := hid (brd_two (o1 := j * 11 + 3) (o2 := j * 11 + 4) (v1 := .int .i64 xn) (v2 := .int .i64 yn) (HLj.out.below hbU) hgw.2)
                  have HB5 : Hid (Below base w ((U.setCell ⟨g, j * 11 + 3, none⟩ (.int .i64 xn)).setCell ⟨g, j * 11 + 4, none⟩ (.int .i64 yn))) := ((HBj.out.trans (hbU.mono hszb)).setCell (p := ⟨g, j * 11 + 3, none⟩) hbg _).setCell (p := ⟨g, j * 11 + 4, none⟩) hbg _
                  have m3 := (hbU.cell (p := ⟨g, j * 11 + 3, none⟩) hgr).trans l3
                  have m4 := (hbU.cell (p := ⟨g, j * 11 + 4, none⟩) hgr).trans l4
                  have fm3 := (hbU.frozen (p := ⟨g, j * 11 + 3, none⟩) hgr).trans f3
                  have fm4 := (hbU.frozen (p := ⟨g, j * 11 + 4, none⟩) hgr).trans f4
                  have u0 : U.cell? ⟨wr.heap.size, 0, none⟩ = some (.int .i64 xn) := cell_of_row U _ 0 _ _ _ hUh
                  have u1 : U.cell? ⟨wr.heap.size, 1, none⟩ = some (.int .i64 yn) := cell_of_row U _ 1 _ _ _ hUh
                  clear hU hbU hUh hG5 l0 l3 l4 f3 f4 d4 z0 z1 zb hlo' HGj HBj HPj HLj HN HMU
                  go_wp2_with fail
                  go_region
                  all_goals
                    go_wp2
                    go_roundw
                    case rel => exact ⟨j + 1, by omega, by go_num, HG5.out.below (Below.refl _ _).drew, HB5.out.drew, HP5, HL5⟩
                    case measure => simp [intOf]; omega
                · have HS : Hid (mapK (moveO s.es old) s.es (j + 1) = mapK (moveO s.es old) s.es j) := mapK_same _ _ hjl (by rw [HMU.out, if_neg hcl])
                  have hclz : (((claimsO s.es old xn yn : Nat) : Int) == 1) = false := by simp; omega
                  have HG4 : Hid (∀ n, GmN base (Z.drewN n) p (.slice (some ⟨g, 0, none⟩) s.es.length c) B { s with es := mapK (moveO s.es old) s.es (j + 1) } (whoK s.es s.es.length) k) := fun n => by
                    rw [HS.out]
                    exact HGj.out.below (below_drewN HBZ.out n)
                  go_upto_region 20 with fail
                  rw [HZZ.out]
                  go_quiet (fail)
                  go_wp2
                  go_roundw
                  case rel => exact ⟨j + 1, by omega, by go_num, HG4.out _, below_drewN (HBj.out.trans (HBZ.out.mono hszb)) _, HPj.out.below (below_drewN HBZ.out _), HLj.out.below (below_drewN HBZ.out _)⟩
                  case measure => simp [intOf]; omega
            · have hjz : ¬ (j : Int) < (s.es.length : Int) := by omega
              have HF : Hid (GmN base wr p (.slice ea s.es.length c) B (moveSO s old) (whoK s.es s.es.length) k) := by
                have h := HGj.out
                rw [mapK_all _ _ (by omega)] at h
                exact h
              clear HGj HPj HLj
              go_wp2
              go_end0
              exact ⟨rfl, HF.out, HBj.out⟩
end Go.Proofs.Ytmnddahkbmlibaa
