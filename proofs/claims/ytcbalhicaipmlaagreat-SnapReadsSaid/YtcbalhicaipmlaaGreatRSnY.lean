/- Package snap: which tape has these bytes. -/
import Derived.Test.YtcbalhicaipmlaaGreatRSnN
import Derived.Test.YtcbalhicaipmlaaGreatRSnV
namespace Go.Proofs.YtcbalhicaipmlaaGreat
open Go.RowKit
theorem tksR_nil (B : Nat) (w : World) : TksR B w (.slice none 0 0) [] := ⟨[], rfl, World.ownsRow_nil _ _ _ _, fun _ hi => absurd hi (Nat.not_lt_zero _)⟩
def TapeOQ (R : Nat × St × List (List (List Int))) (w : World) (e : Ending) (w' : World) : Prop :=
  ∃ fa ea ta fc ec tc, e = .returned (.tuple #[tapeV R.2.1.t R.2.1.g0 R.2.1.g1 R.2.1.nx (.slice fa R.2.1.free.length fc) (.slice ea R.2.1.es.length ec) (.slice ta R.2.2.length tc), errV R.1]) ∧ InE w' R.2.1 fa ea fc ec ∧ TksR w.heap.size w' (.slice ta R.2.2.length tc) R.2.2 ∧ Below w.heap.size w w' ∧ Frsh w.heap.size fa ∧ Frsh w.heap.size ea
def TapeOP (l : List UInt8) (w : World) (e : Ending) (w' : World) : Prop :=
  ∃ fa ea ta fc ec tc, e = .returned (.tuple #[tapeV (rdT l).2.1.t (rdT l).2.1.g0 (rdT l).2.1.g1 (rdT l).2.1.nx (.slice fa (rdT l).2.1.free.length fc) (.slice ea (rdT l).2.1.es.length ec) (.slice ta (rdT l).2.2.length tc), errV (rdT l).1]) ∧ InE w' (rdT l).2.1 fa ea fc ec ∧ TksR w.heap.size w' (.slice ta (rdT l).2.2.length tc) (rdT l).2.2 ∧ Below w.heap.size w w' ∧ Frsh w.heap.size fa ∧ Frsh w.heap.size ea
set_option maxHeartbeats 8000000 in
set_option maxRecDepth 100000 in
theorem tapeOf0_calls (l : List UInt8) (hl : l.length ≤ 100000) (w : World) :
    Calls Tryz.prog 39 #[.int .u8 84, .string ⟨l.toArray⟩, funV 40, funV 11] w (TapeOP l w) := by
  obtain ⟨W, hW⟩ : ∃ W, (w.alloc (.cells zero7 29)).alloc (.cells zero7 29) = W := ⟨_, rfl⟩
  have hbW : Below w.heap.size w W := by rw [← hW]; exact ((Below.refl _ w).alloc (Nat.le_refl _) _).alloc (by simp [go_sem]) _
  have hsW : W.heap.size = w.heap.size + 2 := by rw [← hW]; simp [go_sem]
  have hh0 : W.heap[w.heap.size]? = some (.cells zero7 29) := by
    rw [← hW, heap_alloc_old _ _ (by simp [go_sem])]
    exact heap_alloc_new w _
  have hh1 : W.heap[w.heap.size + 1]? = some (.cells zero7 29) := by
    have e : w.heap.size + 1 = (w.alloc (.cells zero7 29)).heap.size := by simp [go_sem]
    rw [← hW, e]
    exact heap_alloc_new _ _
  have HO := hid (open_calls 84 l (by omega) W)
  have hob := openB_length 84 l
  have HRD : Hid (rdT l = rdT l) := rfl
  have HBW := hid hbW
  have HSW := hid hsW
  have H0 := hid hh0
  have H1 := hid hh1
  clear hbW hsW hh0 hh1
  by_cases hoe : openE 84 l = 0
  case neg =>
    have HY : Hid (rdT l = (openE 84 l, zeroS, [])) := if_neg hoe
    obtain ⟨oe, ho⟩ : ∃ oe, openE 84 l = oe := ⟨_, rfl⟩
    rw [ho] at HO hoe HY
    rw [errV_pos hoe] at HO
    have HEV : Hid (errV oe = .iface 86 (.int .i64 oe)) := errV_pos hoe
    clear ho hoe
    go_enter Tryz.func39, Tryz.ntmps39
    go_wp2_with fail
    refine HO.out.mono ?_
    rintro e w2 ⟨rfl, hb2⟩
    have h02 := (hb2.block w.heap.size (by rw [HSW.out]; omega)).trans H0.out
    obtain ⟨q0, q1, q2, q3, q4, q5, q6⟩ := tape_cellsS h02
    have qf := fun j => frozen_of_row w2 w.heap.size j _ _ h02
    obtain ⟨y0, y1, y2, y3, y4, y5, y6⟩ := tape_cellsS ((hb2.block (w.heap.size + 1) (by rw [HSW.out]; omega)).trans H1.out)
    have HB2 : Hid (Below w.heap.size w w2) := HBW.out.trans (hb2.mono (by rw [HSW.out]; omega))
    clear hb2 h02 HO hW
    go_wp2
    refine bodyPost_ret (v := .tuple #[tapeV 0 0 0 0 (.slice none 0 0) (.slice none 0 0) (.slice none 0 0), .iface 86 (.int .i64 oe)]) (by simp [results, Tryz.results39, go_sem, q0, q1, q2, q3, q4, q5, q6]) rfl ?_
    unfold TapeOP
    rw [HY.out, HEV.out]
    refine ⟨none, none, none, 0, 0, 0, rfl, inE_zero _, tksR_nil _ _, ?_, frsh_none _, frsh_none _⟩
    exact (Below.setCell (Below.setCell (Below.setCell (Below.setCell (Below.setCell (Below.setCell (Below.setCell HB2.out (p := ⟨w.heap.size, 0, none⟩) (Nat.le_refl _) _) (p := ⟨w.heap.size, 1, none⟩) (Nat.le_refl _) _) (p := ⟨w.heap.size, 2, none⟩) (Nat.le_refl _) _) (p := ⟨w.heap.size, 3, none⟩) (Nat.le_refl _) _) (p := ⟨w.heap.size, 4, none⟩) (Nat.le_refl _) _) (p := ⟨w.heap.size, 5, none⟩) (Nat.le_refl _) _) (p := ⟨w.heap.size, 6, none⟩) (Nat.le_refl _) _)
  rw [hoe, show errV 0 = .nilIface from rfl] at HO
  obtain ⟨R, hR⟩ : ∃ R, (Rd.mk (openB 84 l) 0).elder = R := ⟨_, rfl⟩
  obtain ⟨Q, hQ⟩ : ∃ Q, Rd.tape 7 R.2 = Q := ⟨_, rfl⟩
  have HY : Hid (rdT l = if Q.2.over = 0 then (if ckTape R.1 Q.1 = 0 then (0, R.1, Q.1) else (ckTape R.1 Q.1, zeroS, [])) else (Q.2.over, zeroS, [])) := by
    show _ = _
    rw [← hQ, ← hR]
    exact if_pos hoe
  have HRR := hid hR
  have HQQ := hid hQ
  obtain ⟨body, hbd⟩ : ∃ body, openB 84 l = body := ⟨_, rfl⟩
  rw [hbd] at HO hob HRR
  clear hoe hR hQ hbd HRD
  go_enter Tryz.func39, Tryz.ntmps39
  go_wp2_with fail
  refine HO.out.mono ?_
  rintro e w2 ⟨rfl, hb2⟩
  obtain ⟨X, hX⟩ : ∃ X, w2.alloc (.cells #[.string ⟨body.toArray⟩, .nilIface] 147) = X := ⟨_, rfl⟩
  have hbX : Below w2.heap.size w2 X := by rw [← hX]; exact (Below.refl _ _).alloc (Nat.le_refl _) _
  have hrX : RdAt w2.heap.size ⟨body, 0⟩ X := ⟨body, by rw [← hX]; exact heap_alloc_new _ _, fun _ => rfl, by omega⟩
  have hWX : Below W.heap.size W X := hb2.trans (hbX.mono hb2.size)
  have hs2 := hb2.size
  have hsX := hbX.size
  have HWX := hid hWX
  have HRE := hid (readTape_calls w2.heap.size ⟨body, 0⟩ X hrX)
  unfold TapeRP at HRE
  rw [HRR.out, HQQ.out] at HRE
  have hsw := HSW.out
  have HXX := hid hX
  clear hb2 hbX hrX hWX HO hW hX
  go_upto_region 6 with fail
  rw [HXX.out]
  go_wp2_with fail
  refine HRE.out.mono ?_
  rintro e w3 ⟨fa, ea, ta, fc, ec, tc, rfl, hi3, _, _, hr3, hk3, hff, hfe, hT3⟩
  have HFE := hid hfe
  have HFF := hid hff
  clear hfe hff
  obtain ⟨S, hS⟩ : ∃ S, R.1 = S := ⟨_, rfl⟩
  obtain ⟨E, hE⟩ : ∃ E, Q.2 = E := ⟨_, rfl⟩
  obtain ⟨L, hL⟩ : ∃ L, Q.1 = L := ⟨_, rfl⟩
  rw [hS] at hi3 ⊢
  rw [hL] at hT3 ⊢
  rw [hE] at hr3
  rw [hS, hE, hL] at HY
  obtain ⟨V, hV⟩ : ∃ V, w3.alloc (.cells (tapeC S.t S.g0 S.g1 S.nx (.slice fa S.free.length fc) (.slice ea S.es.length ec) (.slice ta L.length tc)) 29) = V := ⟨_, rfl⟩
  have hbV : Below w3.heap.size w3 V := by rw [← hV]; exact (Below.refl _ _).alloc (Nat.le_refl _) _
  have hhV : V.heap[w3.heap.size]? = some (.cells (tapeC S.t S.g0 S.g1 S.nx (.slice fa S.free.length fc) (.slice ea S.es.length ec) (.slice ta L.length tc)) 29) := by rw [← hV]; exact heap_alloc_new _ _
  have h03 := (hk3.2 w.heap.size (by omega) (fun e => by have e' := Option.some.inj e; omega)).trans ((HWX.out.block w.heap.size (by omega)).trans H0.out)
  have h13 := (hk3.2 (w.heap.size + 1) (by omega) (fun e => by have e' := Option.some.inj e; omega)).trans ((HWX.out.block (w.heap.size + 1) (by omega)).trans H1.out)
  have hs3 := hk3.1.size
  have HG0 := hid ((hbV.block w.heap.size (by omega)).trans h03)
  have HG1 := hid ((hbV.block (w.heap.size + 1) (by omega)).trans h13)
  have hiV := hi3.below hbV
  have HEN := hid (readEnd_calls w2.heap.size E V (hr3.below hbV))
  have HBV : Hid (Below w.heap.size w V) := by
    have h1 : Below W.heap.size W w3 := HWX.out.trans (hk3.base (B := W.heap.size) (by omega) (fun k e => by have e' := Option.some.inj e; omega))
    exact (HBW.out.trans (h1.mono (by omega))).trans (hbV.mono (by omega))
  have hTV : TksR X.heap.size V (.slice ta L.length tc) L := hT3.same hbV.size (fun k _ hk => hbV.block k hk)
  obtain ⟨ta', tc', e1, _, htk, _, _⟩ := hTV.tks
  cases e1
  have hL60 : L.length ≤ 60 := by
    rw [← hL, ← HQQ.out]
    unfold Rd.tape
    rw [ticks_length]
    have := upTo_le R.2 (m := 60) (by decide)
    omega
  have hc : Calls Tryz.prog 11 #[tapeV S.t S.g0 S.g1 S.nx (.slice fa S.free.length fc) (.slice ea S.es.length ec) (.slice ta L.length tc)] V fun e w' => e = .returned (errV (ckTape S L)) ∧ Below V.heap.size V w' := checkTape_calls S fa ea ta fc ec tc L V hiV (by omega) htk
  have HTV := hid hTV
  have HCK := hid hc
  have HIV := hid hiV
  have HHV := hid hhV
  have hsV := hbV.size
  have HVX := hid hV
  clear hV hc hiV hhV hbV h03 h13 hi3 hr3 hk3 hT3 hTV htk HRE hS hE hL HRR HQQ HXX
  go_upto_region 7 with fail
  rw [HVX.out]
  go_wp2_with fail
  refine HEN.out.mono ?_
  rintro e w4 ⟨rfl, hw4⟩
  rw [hw4]
  clear hw4 w4 HVX
  by_cases hov : E.over = 0
  case neg =>
    rw [if_neg hov] at HY
    obtain ⟨oe, ho⟩ : ∃ oe, E.over = oe := ⟨_, rfl⟩
    rw [ho] at hov HY ⊢
    have HEV : Hid (errV oe = .iface 86 (.int .i64 oe)) := errV_pos hov
    rw [errV_pos hov]
    obtain ⟨q0, q1, q2, q3, q4, q5, q6⟩ := tape_cellsS HG0.out
    have qf := fun j => frozen_of_row V w.heap.size j _ _ HG0.out
    obtain ⟨y0, y1, y2, y3, y4, y5, y6⟩ := tape_cellsS HG1.out
    clear ho hov HEN HCK
    go_wp2
    refine bodyPost_ret (v := .tuple #[tapeV 0 0 0 0 (.slice none 0 0) (.slice none 0 0) (.slice none 0 0), .iface 86 (.int .i64 oe)]) (by simp [results, Tryz.results39, go_sem, q0, q1, q2, q3, q4, q5, q6]) rfl ?_
    unfold TapeOP
    rw [HY.out, HEV.out]
    refine ⟨none, none, none, 0, 0, 0, rfl, inE_zero _, tksR_nil _ _, ?_, frsh_none _, frsh_none _⟩
    exact (Below.setCell (Below.setCell (Below.setCell (Below.setCell (Below.setCell (Below.setCell (Below.setCell HBV.out (p := ⟨w.heap.size, 0, none⟩) (Nat.le_refl _) _) (p := ⟨w.heap.size, 1, none⟩) (Nat.le_refl _) _) (p := ⟨w.heap.size, 2, none⟩) (Nat.le_refl _) _) (p := ⟨w.heap.size, 3, none⟩) (Nat.le_refl _) _) (p := ⟨w.heap.size, 4, none⟩) (Nat.le_refl _) _) (p := ⟨w.heap.size, 5, none⟩) (Nat.le_refl _) _) (p := ⟨w.heap.size, 6, none⟩) (Nat.le_refl _) _)
  rw [if_pos hov] at HY
  rw [hov, show errV 0 = .nilIface from rfl]
  obtain ⟨x0, x1, x2, x3, x4, x5, x6⟩ := tape_cellsS HHV.out
  clear hov HEN
  go_wp2_with fail
  refine HCK.out.mono ?_
  rintro e w5 ⟨rfl, hb5⟩
  have h05 := (hb5.block w.heap.size (by omega)).trans HG0.out
  have h15 := (hb5.block (w.heap.size + 1) (by omega)).trans HG1.out
  have hV5 := (hb5.block w3.heap.size (Array.getElem?_eq_some_iff.1 HHV.out).1).trans HHV.out
  clear x0 x1 x2 x3 x4 x5 x6
  obtain ⟨x0, x1, x2, x3, x4, x5, x6⟩ := tape_cellsS hV5
  obtain ⟨q0, q1, q2, q3, q4, q5, q6⟩ := tape_cellsS h05
  have qf := fun j => frozen_of_row w5 w.heap.size j _ _ h05
  obtain ⟨y0, y1, y2, y3, y4, y5, y6⟩ := tape_cellsS h15
  have HB5 : Hid (Below w.heap.size w w5) := HBV.out.trans (hb5.mono (by omega))
  have hi5 := HIV.out.below hb5
  have h05' := hid h05
  by_cases hck : ckTape S L = 0
  case neg =>
    rw [if_neg hck] at HY
    obtain ⟨oe, ho⟩ : ∃ oe, ckTape S L = oe := ⟨_, rfl⟩
    rw [ho] at hck HY ⊢
    have HEV : Hid (errV oe = .iface 86 (.int .i64 oe)) := errV_pos hck
    rw [errV_pos hck]
    clear ho hck HCK hb5 hi5 h05 h15 hV5
    go_wp2
    refine bodyPost_ret (v := .tuple #[tapeV 0 0 0 0 (.slice none 0 0) (.slice none 0 0) (.slice none 0 0), .iface 86 (.int .i64 oe)]) (by simp [results, Tryz.results39, go_sem, q0, q1, q2, q3, q4, q5, q6]) rfl ?_
    unfold TapeOP
    rw [HY.out, HEV.out]
    refine ⟨none, none, none, 0, 0, 0, rfl, inE_zero _, tksR_nil _ _, ?_, frsh_none _, frsh_none _⟩
    exact (Below.setCell (Below.setCell (Below.setCell (Below.setCell (Below.setCell (Below.setCell (Below.setCell HB5.out (p := ⟨w.heap.size, 0, none⟩) (Nat.le_refl _) _) (p := ⟨w.heap.size, 1, none⟩) (Nat.le_refl _) _) (p := ⟨w.heap.size, 2, none⟩) (Nat.le_refl _) _) (p := ⟨w.heap.size, 3, none⟩) (Nat.le_refl _) _) (p := ⟨w.heap.size, 4, none⟩) (Nat.le_refl _) _) (p := ⟨w.heap.size, 5, none⟩) (Nat.le_refl _) _) (p := ⟨w.heap.size, 6, none⟩) (Nat.le_refl _) _)
  rw [if_pos hck] at HY
  rw [hck, show errV 0 = .nilIface from rfl]
  have HI5 := hid hi5
  have HT5 : Hid (TksR X.heap.size w5 (.slice ta L.length tc) L) := HTV.out.same hb5.size (fun k _ hk => hb5.block k hk)
  clear hck HCK hb5 hi5 h05 h15 hV5
  go_wp2
  refine bodyPost_ret (v := .tuple #[tapeV S.t S.g0 S.g1 S.nx (.slice fa S.free.length fc) (.slice ea S.es.length ec) (.slice ta L.length tc), .nilIface]) (by simp [results, Tryz.results39, go_sem, q0, q1, q2, q3, q4, q5, q6]) rfl ?_
  show TapeOP l w _ (set7 w5 w.heap.size (.int .i64 S.t) (.int .i64 S.g0) (.int .i64 S.g1) (.int .i64 S.nx) (.slice fa S.free.length fc) (.slice ea S.es.length ec) (.slice ta L.length tc))
  unfold TapeOP
  rw [HY.out]
  refine ⟨fa, ea, ta, fc, ec, tc, rfl, inE_blk HI5.out (fun b o e _ => heap_seven ?_) (fun b o e _ => heap_seven ?_), tksR_base (HT5.out.same (by rw [size_seven]; exact Nat.le_refl _) (fun k hk _ => heap_seven (by omega))) (by omega), ?_, frsh_mono HFF.out (by omega), frsh_mono HFE.out (by omega)⟩
  · have := HFF.out b o e; omega
  · have := HFE.out b o e; omega
  · exact (Below.setCell (Below.setCell (Below.setCell (Below.setCell (Below.setCell (Below.setCell (Below.setCell HB5.out (p := ⟨w.heap.size, 0, none⟩) (Nat.le_refl _) _) (p := ⟨w.heap.size, 1, none⟩) (Nat.le_refl _) _) (p := ⟨w.heap.size, 2, none⟩) (Nat.le_refl _) _) (p := ⟨w.heap.size, 3, none⟩) (Nat.le_refl _) _) (p := ⟨w.heap.size, 4, none⟩) (Nat.le_refl _) _) (p := ⟨w.heap.size, 5, none⟩) (Nat.le_refl _) _) (p := ⟨w.heap.size, 6, none⟩) (Nat.le_refl _) _)
set_option maxHeartbeats 8000000 in
set_option maxRecDepth 100000 in
theorem tapeOf_calls (l : List UInt8) (hl : l.length ≤ 100000) (w : World) :
    Calls Tryz.prog 12 #[.string ⟨l.toArray⟩] w (TapeOP l w) := by
  obtain ⟨W, hW⟩ : ∃ W, w.alloc (.cells zero7 29) = W := ⟨_, rfl⟩
  have hbW : Below w.heap.size w W := by rw [← hW]; exact (Below.refl _ w).alloc (Nat.le_refl _) _
  have hsW : w.heap.size < W.heap.size := by rw [← hW]; simp [go_sem]
  have hh0 : W.heap[w.heap.size]? = some (.cells zero7 29) := by rw [← hW]; exact heap_alloc_new _ _
  have HC := hid (tapeOf0_calls l hl W)
  obtain ⟨R, hR⟩ : ∃ R, rdT l = R := ⟨_, rfl⟩
  unfold TapeOP at HC ⊢
  rw [hR] at HC ⊢
  have HBW := hid hbW
  have H0 := hid hh0
  clear hR hbW hh0
  show Calls _ _ _ _ (TapeOQ R w)
  go_enter Tryz.func12, Tryz.ntmps12
  go_wp2_with fail
  refine HC.out.mono ?_
  rintro e w2 ⟨fa, ea, ta, fc, ec, tc, rfl, hi2, hT2, hb2, hff, hfe⟩
  obtain ⟨ev, hev⟩ : ∃ ev, errV R.1 = ev := ⟨_, rfl⟩
  rw [hev]
  have h02 := (hb2.block w.heap.size hsW).trans H0.out
  obtain ⟨q0, q1, q2, q3, q4, q5, q6⟩ := tape_cellsS h02
  have qf := fun j => frozen_of_row w2 w.heap.size j _ _ h02
  have HB2 : Hid (Below w.heap.size w w2) := HBW.out.trans (hb2.mono (Nat.le_of_lt hsW))
  have HI2 := hid hi2
  have HT2 := hid hT2
  have HFE := hid hfe
  have HFF := hid hff
  clear hfe hff
  have HEV := hid hev
  clear hi2 hb2 h02 HC hW hev hT2
  go_wp2
  refine bodyPost_ret (v := .tuple #[tapeV R.2.1.t R.2.1.g0 R.2.1.g1 R.2.1.nx (.slice fa R.2.1.free.length fc) (.slice ea R.2.1.es.length ec) (.slice ta R.2.2.length tc), ev]) (by simp [results, Tryz.results12, go_sem, q0, q1, q2, q3, q4, q5, q6]) rfl ?_
  show TapeOQ R w _ (set7 w2 w.heap.size (.int .i64 R.2.1.t) (.int .i64 R.2.1.g0) (.int .i64 R.2.1.g1) (.int .i64 R.2.1.nx) (.slice fa R.2.1.free.length fc) (.slice ea R.2.1.es.length ec) (.slice ta R.2.2.length tc))
  refine ⟨fa, ea, ta, fc, ec, tc, by rw [HEV.out], inE_blk HI2.out (fun b o e _ => heap_seven ?_) (fun b o e _ => heap_seven ?_), tksR_base (HT2.out.same (by rw [size_seven]; exact Nat.le_refl _) (fun k hk _ => heap_seven (by omega))) (Nat.le_of_lt hsW), ?_, frsh_mono HFF.out (Nat.le_of_lt hsW), frsh_mono HFE.out (Nat.le_of_lt hsW)⟩
  · have := HFF.out b o e; omega
  · have := HFE.out b o e; omega
  · exact (Below.setCell (Below.setCell (Below.setCell (Below.setCell (Below.setCell (Below.setCell (Below.setCell HB2.out (p := ⟨w.heap.size, 0, none⟩) (Nat.le_refl _) _) (p := ⟨w.heap.size, 1, none⟩) (Nat.le_refl _) _) (p := ⟨w.heap.size, 2, none⟩) (Nat.le_refl _) _) (p := ⟨w.heap.size, 3, none⟩) (Nat.le_refl _) _) (p := ⟨w.heap.size, 4, none⟩) (Nat.le_refl _) _) (p := ⟨w.heap.size, 5, none⟩) (Nat.le_refl _) _) (p := ⟨w.heap.size, 6, none⟩) (Nat.le_refl _) _)
end Go.Proofs.YtcbalhicaipmlaaGreat
