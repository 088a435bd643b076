/- Package snap: what has these bytes. -/
import Derived.Test.YtcbalhicaipmlaaGreatRSnM
import Derived.Test.YtcbalhicaipmlaaGreatRSnB
namespace Go.Proofs.YtcbalhicaipmlaaGreat
open Go.RowKit
def rdE (l : List UInt8) : Nat × St :=
  if openE 69 l = 0 then (if (Rd.mk (openB 69 l) 0).elder.2.over = 0 then (if checkE (Rd.mk (openB 69 l) 0).elder.1.t (Rd.mk (openB 69 l) 0).elder.1.g0 (Rd.mk (openB 69 l) 0).elder.1.g1 (Rd.mk (openB 69 l) 0).elder.1.nx (Rd.mk (openB 69 l) 0).elder.1.free (Rd.mk (openB 69 l) 0).elder.1.es = 0 then (0, (Rd.mk (openB 69 l) 0).elder.1) else (checkE (Rd.mk (openB 69 l) 0).elder.1.t (Rd.mk (openB 69 l) 0).elder.1.g0 (Rd.mk (openB 69 l) 0).elder.1.g1 (Rd.mk (openB 69 l) 0).elder.1.nx (Rd.mk (openB 69 l) 0).elder.1.free (Rd.mk (openB 69 l) 0).elder.1.es, zeroS)) else ((Rd.mk (openB 69 l) 0).elder.2.over, zeroS)) else (openE 69 l, zeroS)
def rdN (l : List UInt8) : Nat × St :=
  if openE 78 l = 0 then (if (Rd.mk (openB 78 l) 0).newer.2.over = 0 then (if ckN (Rd.mk (openB 78 l) 0).newer.1 = 0 then (0, (Rd.mk (openB 78 l) 0).newer.1) else (ckN (Rd.mk (openB 78 l) 0).newer.1, zeroS)) else ((Rd.mk (openB 78 l) 0).newer.2.over, zeroS)) else (openE 78 l, zeroS)
theorem frsh_none (B : Nat) : Frsh B none := fun b o h => by cases h
theorem frsh_mono {B C : Nat} {a : Option Addr} (h : Frsh C a) (hB : B ≤ C) : Frsh B a := fun b o e => Nat.le_trans hB (h b o e)
theorem openB_length (b : UInt8) (l : List UInt8) : (openB b l).length ≤ l.length := by
  unfold openB midL
  split
  · rw [List.length_take, List.length_drop]; omega
  · exact Nat.zero_le _
theorem inE_zero (w : World) : InE w zeroS none none 0 0 := ⟨fun _ => rfl, fun _ => rfl, Nat.le_refl _, Or.inl rfl, Or.inl rfl, fun _ hi => absurd hi (Nat.not_lt_zero _), rfl⟩
theorem inW_zero (w : World) : InW w zeroS none 0 := ⟨fun _ => rfl, Nat.le_refl _, Or.inl rfl, rfl, rfl⟩
theorem setS6_heap {w : World} {b k : Nat} {c0 c1 c2 c3 c4 c5 : Value} (hn : k ≠ b) : ((((((w.setCell ⟨b, 0, none⟩ c0).setCell ⟨b, 1, none⟩ c1).setCell ⟨b, 2, none⟩ c2).setCell ⟨b, 3, none⟩ c3).setCell ⟨b, 4, none⟩ c4).setCell ⟨b, 5, none⟩ c5).heap[k]? = w.heap[k]? :=
  (heap_setCell_other _ ⟨b, 5, none⟩ k _ hn).trans ((heap_setCell_other _ ⟨b, 4, none⟩ k _ hn).trans (head_off hn))
theorem setS5_heap {w : World} {b k : Nat} {c0 c1 c2 c3 c4 : Value} (hn : k ≠ b) : (((((w.setCell ⟨b, 0, none⟩ c0).setCell ⟨b, 1, none⟩ c1).setCell ⟨b, 2, none⟩ c2).setCell ⟨b, 3, none⟩ c3).setCell ⟨b, 4, none⟩ c4).heap[k]? = w.heap[k]? :=
  (heap_setCell_other _ ⟨b, 4, none⟩ k _ hn).trans (head_off hn)
theorem recs_blk {w w' : World} {a : Option Addr} {k : Nat} {rs : List (List Int)} (h : Recs w a k rs) (hb : ∀ b o, a = some ⟨b, o, none⟩ → w'.heap[b]? = w.heap[b]?) : Recs w' a k rs := by
  rcases h with h | ⟨b, o, e, hc⟩
  · exact Or.inl h
  · refine Or.inr ⟨b, o, e, fun i hi j hj => ?_⟩
    have := hc i hi j hj
    unfold World.cell? at this ⊢
    simp only at this ⊢
    rw [hb b o e]
    exact this
theorem nums_blk {w w' : World} {a : Option Addr} {zs : List Int} (h : Nums w a zs) (hb : ∀ b o, a = some ⟨b, o, none⟩ → w'.heap[b]? = w.heap[b]?) : Nums w' a zs := by
  rcases h with h | ⟨b, o, e, hc⟩
  · exact Or.inl h
  · refine Or.inr ⟨b, o, e, fun i hi => ?_⟩
    have := hc i hi
    unfold World.cell? at this ⊢
    simp only at this ⊢
    rw [hb b o e]
    exact this
set_option maxHeartbeats 8000000 in
set_option maxRecDepth 100000 in
theorem elderOf0_calls (l : List UInt8) (hl : l.length ≤ 10000) (w : World) :
    Calls Tryz.prog 53 #[.int .u8 69, .string ⟨l.toArray⟩, funV 54, funV 36] w fun e w' => ∃ fa ea fc ec, e = .returned (.tuple #[elderV (rdE l).2.t (rdE l).2.g0 (rdE l).2.g1 (rdE l).2.nx (.slice fa (rdE l).2.free.length fc) (.slice ea (rdE l).2.es.length ec), errV (rdE l).1]) ∧ InE w' (rdE l).2 fa ea fc ec ∧ Below w.heap.size w w' ∧ Frsh w.heap.size fa ∧ Frsh w.heap.size ea := by
  obtain ⟨W, hW⟩ : ∃ W, (w.alloc (.cells #[.int .i64 0, .int .i64 0, .int .i64 0, .int .i64 0, .slice none 0 0, .slice none 0 0] 26)).alloc (.cells #[.int .i64 0, .int .i64 0, .int .i64 0, .int .i64 0, .slice none 0 0, .slice none 0 0] 26) = W := ⟨_, rfl⟩
  have hbW : Below w.heap.size w W := by rw [← hW]; exact ((Below.refl _ w).alloc (Nat.le_refl _) _).alloc (by simp [go_sem]) _
  have hsW : W.heap.size = w.heap.size + 2 := by rw [← hW]; simp [go_sem]
  have hh0 : W.heap[w.heap.size]? = some (.cells #[.int .i64 0, .int .i64 0, .int .i64 0, .int .i64 0, .slice none 0 0, .slice none 0 0] 26) := by
    rw [← hW, heap_alloc_old _ _ (by simp [go_sem])]
    exact heap_alloc_new w _
  have hh1 : W.heap[w.heap.size + 1]? = some (.cells #[.int .i64 0, .int .i64 0, .int .i64 0, .int .i64 0, .slice none 0 0, .slice none 0 0] 26) := by
    have e : w.heap.size + 1 = (w.alloc (.cells #[.int .i64 0, .int .i64 0, .int .i64 0, .int .i64 0, .slice none 0 0, .slice none 0 0] 26)).heap.size := by simp [go_sem]
    rw [← hW, e]
    exact heap_alloc_new _ _
  have HO := hid (open_calls 69 l (by omega) W)
  have hob := openB_length 69 l
  have HRD : Hid (rdE l = rdE l) := rfl
  have HBW := hid hbW
  have HSW := hid hsW
  have H0 := hid hh0
  have H1 := hid hh1
  clear hbW hsW hh0 hh1
  by_cases hoe : openE 69 l = 0
  case neg =>
    have HY : Hid (rdE l = (openE 69 l, zeroS)) := if_neg hoe
    obtain ⟨oe, ho⟩ : ∃ oe, openE 69 l = oe := ⟨_, rfl⟩
    rw [ho] at HO hoe HY
    rw [errV_pos hoe] at HO
    have HEV : Hid (errV oe = .iface 86 (.int .i64 oe)) := errV_pos hoe
    clear ho hoe
    go_enter Tryz.func53, Tryz.ntmps53
    go_wp2_with fail
    refine HO.out.mono ?_
    rintro e w2 ⟨rfl, hb2⟩
    have h02 := (hb2.block w.heap.size (by rw [HSW.out]; omega)).trans H0.out
    obtain ⟨q0, q1, q2, q3, q4, q5⟩ := elder_cells h02
    have qf := fun j => frozen_of_row w2 w.heap.size j _ _ h02
    obtain ⟨y0, y1, y2, y3, y4, y5⟩ := elder_cells ((hb2.block (w.heap.size + 1) (by rw [HSW.out]; omega)).trans H1.out)
    have HB2 : Hid (Below w.heap.size w w2) := HBW.out.trans (hb2.mono (by rw [HSW.out]; omega))
    clear hb2 h02 HO hW
    go_wp2
    rw [HY.out, HEV.out]
    refine bodyPost_ret (v := .tuple #[elderV 0 0 0 0 (.slice none 0 0) (.slice none 0 0), .iface 86 (.int .i64 oe)]) (by simp [results, Tryz.results53, go_sem, q0, q1, q2, q3, q4, q5]) rfl ⟨none, none, 0, 0, rfl, inE_zero _, ?_, frsh_none _, frsh_none _⟩
    exact (Below.setCell (Below.setCell (Below.setCell (Below.setCell (Below.setCell (Below.setCell HB2.out (p := ⟨w.heap.size, 0, none⟩) (Nat.le_refl _) _) (p := ⟨w.heap.size, 1, none⟩) (Nat.le_refl _) _) (p := ⟨w.heap.size, 2, none⟩) (Nat.le_refl _) _) (p := ⟨w.heap.size, 3, none⟩) (Nat.le_refl _) _) (p := ⟨w.heap.size, 4, none⟩) (Nat.le_refl _) _) (p := ⟨w.heap.size, 5, none⟩) (Nat.le_refl _) _)
  rw [hoe, show errV 0 = .nilIface from rfl] at HO
  obtain ⟨R, hR⟩ : ∃ R, (Rd.mk (openB 69 l) 0).elder = R := ⟨_, rfl⟩
  have HY : Hid (rdE l = if R.2.over = 0 then (if checkE R.1.t R.1.g0 R.1.g1 R.1.nx R.1.free R.1.es = 0 then (0, R.1) else (checkE R.1.t R.1.g0 R.1.g1 R.1.nx R.1.free R.1.es, zeroS)) else (R.2.over, zeroS)) := by
    show _ = _
    rw [← hR]
    exact if_pos hoe
  have HRR := hid hR
  obtain ⟨body, hbd⟩ : ∃ body, openB 69 l = body := ⟨_, rfl⟩
  rw [hbd] at HO hob HRR
  clear hoe hR hbd HRD
  go_enter Tryz.func53, Tryz.ntmps53
  go_wp2_with fail
  refine HO.out.mono ?_
  rintro e w2 ⟨rfl, hb2⟩
  obtain ⟨X, hX⟩ : ∃ X, w2.alloc (.cells #[.string ⟨body.toArray⟩, .nilIface] 147) = X := ⟨_, rfl⟩
  have hbX : Below w2.heap.size w2 X := by rw [← hX]; exact (Below.refl _ _).alloc (Nat.le_refl _) _
  have hrX : RdAt w2.heap.size ⟨body, 0⟩ X := ⟨body, by rw [← hX]; exact heap_alloc_new _ _, fun _ => rfl, by omega⟩
  have hWX : Below W.heap.size W X := hb2.trans (hbX.mono hb2.size)
  have hs2 := hb2.size
  have hsX := hbX.size
  have HWX := hid hWX
  have HRE := hid (readElder_calls w2.heap.size ⟨body, 0⟩ X hrX)
  rw [HRR.out] at HRE
  have hsw := HSW.out
  have HXX := hid hX
  clear hb2 hbX hrX hWX HO hW hX
  go_upto_region 6 with fail
  rw [HXX.out]
  go_wp2_with fail
  refine HRE.out.mono ?_
  rintro e w3 ⟨fa, ea, fc, ec, rfl, hi3, hr3, hk3, hff, hfe⟩
  have HFE := hid hfe
  have HFF := hid hff
  clear hfe hff
  obtain ⟨S, hS⟩ : ∃ S, R.1 = S := ⟨_, rfl⟩
  obtain ⟨E, hE⟩ : ∃ E, R.2 = E := ⟨_, rfl⟩
  rw [hS] at hi3 ⊢
  rw [hE] at hr3
  rw [hS, hE] at HY
  obtain ⟨V, hV⟩ : ∃ V, w3.alloc (.cells (elC S.t S.g0 S.g1 S.nx (.slice fa S.free.length fc) (.slice ea S.es.length ec)) 26) = V := ⟨_, rfl⟩
  have hbV : Below w3.heap.size w3 V := by rw [← hV]; exact (Below.refl _ _).alloc (Nat.le_refl _) _
  have hhV : V.heap[w3.heap.size]? = some (.cells (elC S.t S.g0 S.g1 S.nx (.slice fa S.free.length fc) (.slice ea S.es.length ec)) 26) := by rw [← hV]; exact heap_alloc_new _ _
  have h03 := (hk3.2 w.heap.size (by omega) (fun e => by have e' := Option.some.inj e; omega)).trans ((HWX.out.block w.heap.size (by omega)).trans H0.out)
  have h13 := (hk3.2 (w.heap.size + 1) (by omega) (fun e => by have e' := Option.some.inj e; omega)).trans ((HWX.out.block (w.heap.size + 1) (by omega)).trans H1.out)
  have hs3 := hk3.1.size
  have HG0 := hid ((hbV.block w.heap.size (by omega)).trans h03)
  have HG1 := hid ((hbV.block (w.heap.size + 1) (by omega)).trans h13)
  have hiV := hi3.below hbV
  have HEN := hid (readEnd_calls w2.heap.size E V (hr3.below hbV))
  have HBV : Hid (Below w.heap.size w V) := by
    have h1 : Below W.heap.size W w3 := HWX.out.trans (hk3.base (B := W.heap.size) (by omega) (fun k e => by have e' := Option.some.inj e; omega))
    exact (HBW.out.trans (h1.mono (by omega))).trans (hbV.mono (by omega))
  have hc : Calls Tryz.prog 36 #[elderV S.t S.g0 S.g1 S.nx (.slice fa S.free.length fc) (.slice ea S.es.length ec)] V fun e w' => e = .returned (errV (checkE S.t S.g0 S.g1 S.nx S.free S.es)) ∧ Below V.heap.size V w' := check_calls S.t S.g0 S.g1 S.nx S.free fa ea fc ec S.es V hiV.cap hiV.rows hiV.nums hiV.wf
  have HCK := hid hc
  have HIV := hid hiV
  have HHV := hid hhV
  have hsV := hbV.size
  have HVX := hid hV
  clear hV hc hiV hhV hbV h03 h13 hi3 hr3 hk3 HRE hS hE HRR HXX
  go_upto_region 7 with fail
  rw [HVX.out]
  go_wp2_with fail
  refine HEN.out.mono ?_
  rintro e w4 ⟨rfl, hw4⟩
  rw [hw4]
  clear hw4 w4 HVX
  by_cases hov : E.over = 0
  case neg =>
    rw [if_neg hov] at HY
    obtain ⟨oe, ho⟩ : ∃ oe, E.over = oe := ⟨_, rfl⟩
    rw [ho] at hov HY ⊢
    have HEV : Hid (errV oe = .iface 86 (.int .i64 oe)) := errV_pos hov
    rw [errV_pos hov]
    obtain ⟨q0, q1, q2, q3, q4, q5⟩ := elder_cells HG0.out
    have qf := fun j => frozen_of_row V w.heap.size j _ _ HG0.out
    obtain ⟨y0, y1, y2, y3, y4, y5⟩ := elder_cells HG1.out
    clear ho hov HEN HCK
    go_wp2
    rw [HY.out, HEV.out]
    refine bodyPost_ret (v := .tuple #[elderV 0 0 0 0 (.slice none 0 0) (.slice none 0 0), .iface 86 (.int .i64 oe)]) (by simp [results, Tryz.results53, go_sem, q0, q1, q2, q3, q4, q5]) rfl ⟨none, none, 0, 0, rfl, inE_zero _, ?_, frsh_none _, frsh_none _⟩
    exact (Below.setCell (Below.setCell (Below.setCell (Below.setCell (Below.setCell (Below.setCell HBV.out (p := ⟨w.heap.size, 0, none⟩) (Nat.le_refl _) _) (p := ⟨w.heap.size, 1, none⟩) (Nat.le_refl _) _) (p := ⟨w.heap.size, 2, none⟩) (Nat.le_refl _) _) (p := ⟨w.heap.size, 3, none⟩) (Nat.le_refl _) _) (p := ⟨w.heap.size, 4, none⟩) (Nat.le_refl _) _) (p := ⟨w.heap.size, 5, none⟩) (Nat.le_refl _) _)
  rw [if_pos hov] at HY
  rw [hov, show errV 0 = .nilIface from rfl]
  obtain ⟨x0, x1, x2, x3, x4, x5⟩ := elder_cells HHV.out
  clear hov HEN
  go_wp2_with fail
  refine HCK.out.mono ?_
  rintro e w5 ⟨rfl, hb5⟩
  have h05 := (hb5.block w.heap.size (by omega)).trans HG0.out
  have h15 := (hb5.block (w.heap.size + 1) (by omega)).trans HG1.out
  have hV5 := (hb5.block w3.heap.size (Array.getElem?_eq_some_iff.1 HHV.out).1).trans HHV.out
  clear x0 x1 x2 x3 x4 x5
  obtain ⟨x0, x1, x2, x3, x4, x5⟩ := elder_cells hV5
  obtain ⟨q0, q1, q2, q3, q4, q5⟩ := elder_cells h05
  have qf := fun j => frozen_of_row w5 w.heap.size j _ _ h05
  obtain ⟨y0, y1, y2, y3, y4, y5⟩ := elder_cells h15
  have HB5 : Hid (Below w.heap.size w w5) := HBV.out.trans (hb5.mono (by omega))
  have hi5 := HIV.out.below hb5
  have h05' := hid h05
  by_cases hck : checkE S.t S.g0 S.g1 S.nx S.free S.es = 0
  case neg =>
    rw [if_neg hck] at HY
    obtain ⟨oe, ho⟩ : ∃ oe, checkE S.t S.g0 S.g1 S.nx S.free S.es = oe := ⟨_, rfl⟩
    rw [ho] at hck HY ⊢
    have HEV : Hid (errV oe = .iface 86 (.int .i64 oe)) := errV_pos hck
    rw [errV_pos hck]
    clear ho hck HCK hb5 hi5 h05 h15 hV5
    go_wp2
    rw [HY.out, HEV.out]
    refine bodyPost_ret (v := .tuple #[elderV 0 0 0 0 (.slice none 0 0) (.slice none 0 0), .iface 86 (.int .i64 oe)]) (by simp [results, Tryz.results53, go_sem, q0, q1, q2, q3, q4, q5]) rfl ⟨none, none, 0, 0, rfl, inE_zero _, ?_, frsh_none _, frsh_none _⟩
    exact (Below.setCell (Below.setCell (Below.setCell (Below.setCell (Below.setCell (Below.setCell HB5.out (p := ⟨w.heap.size, 0, none⟩) (Nat.le_refl _) _) (p := ⟨w.heap.size, 1, none⟩) (Nat.le_refl _) _) (p := ⟨w.heap.size, 2, none⟩) (Nat.le_refl _) _) (p := ⟨w.heap.size, 3, none⟩) (Nat.le_refl _) _) (p := ⟨w.heap.size, 4, none⟩) (Nat.le_refl _) _) (p := ⟨w.heap.size, 5, none⟩) (Nat.le_refl _) _)
  rw [if_pos hck] at HY
  rw [hck, show errV 0 = .nilIface from rfl]
  have HI5 := hid hi5
  clear hck HCK hb5 hi5 h05 h15 hV5
  go_wp2
  rw [HY.out]
  refine bodyPost_ret (v := .tuple #[elderV S.t S.g0 S.g1 S.nx (.slice fa S.free.length fc) (.slice ea S.es.length ec), .nilIface]) (by simp [results, Tryz.results53, go_sem, q0, q1, q2, q3, q4, q5]) rfl ⟨fa, ea, fc, ec, rfl, ?_, ?_, frsh_mono HFF.out (by omega), frsh_mono HFE.out (by omega)⟩
  · refine ⟨HI5.out.fn, HI5.out.en, HI5.out.cap, recs_blk HI5.out.rows (fun b o e => setS6_heap ?_), nums_blk HI5.out.nums (fun b o e => setS6_heap ?_), HI5.out.wf, HI5.out.born⟩
    · have := HFE.out b o e; omega
    · have := HFF.out b o e; omega
  · exact (Below.setCell (Below.setCell (Below.setCell (Below.setCell (Below.setCell (Below.setCell HB5.out (p := ⟨w.heap.size, 0, none⟩) (Nat.le_refl _) _) (p := ⟨w.heap.size, 1, none⟩) (Nat.le_refl _) _) (p := ⟨w.heap.size, 2, none⟩) (Nat.le_refl _) _) (p := ⟨w.heap.size, 3, none⟩) (Nat.le_refl _) _) (p := ⟨w.heap.size, 4, none⟩) (Nat.le_refl _) _) (p := ⟨w.heap.size, 5, none⟩) (Nat.le_refl _) _)
set_option maxHeartbeats 8000000 in
set_option maxRecDepth 100000 in
theorem elderOf_calls (l : List UInt8) (hl : l.length ≤ 10000) (w : World) :
    Calls Tryz.prog 22 #[.string ⟨l.toArray⟩] w fun e w' => ∃ fa ea fc ec, e = .returned (.tuple #[elderV (rdE l).2.t (rdE l).2.g0 (rdE l).2.g1 (rdE l).2.nx (.slice fa (rdE l).2.free.length fc) (.slice ea (rdE l).2.es.length ec), errV (rdE l).1]) ∧ InE w' (rdE l).2 fa ea fc ec ∧ Below w.heap.size w w' := by
  obtain ⟨W, hW⟩ : ∃ W, w.alloc (.cells #[.int .i64 0, .int .i64 0, .int .i64 0, .int .i64 0, .slice none 0 0, .slice none 0 0] 26) = W := ⟨_, rfl⟩
  have hbW : Below w.heap.size w W := by rw [← hW]; exact (Below.refl _ w).alloc (Nat.le_refl _) _
  have hsW : w.heap.size < W.heap.size := by rw [← hW]; simp [go_sem]
  have hh0 : W.heap[w.heap.size]? = some (.cells #[.int .i64 0, .int .i64 0, .int .i64 0, .int .i64 0, .slice none 0 0, .slice none 0 0] 26) := by rw [← hW]; exact heap_alloc_new _ _
  have HC := hid (elderOf0_calls l hl W)
  obtain ⟨R, hR⟩ : ∃ R, rdE l = R := ⟨_, rfl⟩
  rw [hR] at HC ⊢
  have HBW := hid hbW
  have H0 := hid hh0
  clear hR hbW hh0
  go_enter Tryz.func22, Tryz.ntmps22
  go_wp2_with fail
  refine HC.out.mono ?_
  rintro e w2 ⟨fa, ea, fc, ec, rfl, hi2, hb2, hff, hfe⟩
  obtain ⟨ev, hev⟩ : ∃ ev, errV R.1 = ev := ⟨_, rfl⟩
  rw [hev]
  have h02 := (hb2.block w.heap.size hsW).trans H0.out
  obtain ⟨q0, q1, q2, q3, q4, q5⟩ := elder_cells h02
  have qf := fun j => frozen_of_row w2 w.heap.size j _ _ h02
  have HB2 : Hid (Below w.heap.size w w2) := HBW.out.trans (hb2.mono (Nat.le_of_lt hsW))
  have HI2 := hid hi2
  have HFE := hid hfe
  have HFF := hid hff
  clear hfe hff
  have HEV := hid hev
  clear hi2 hb2 h02 HC hW hev
  go_wp2
  refine bodyPost_ret (v := .tuple #[elderV R.2.t R.2.g0 R.2.g1 R.2.nx (.slice fa R.2.free.length fc) (.slice ea R.2.es.length ec), ev]) (by simp [results, Tryz.results22, go_sem, q0, q1, q2, q3, q4, q5]) rfl ⟨fa, ea, fc, ec, by rw [HEV.out], ?_, ?_⟩
  · refine ⟨HI2.out.fn, HI2.out.en, HI2.out.cap, recs_blk HI2.out.rows (fun b o e => setS6_heap ?_), nums_blk HI2.out.nums (fun b o e => setS6_heap ?_), HI2.out.wf, HI2.out.born⟩
    · have := HFE.out b o e; omega
    · have := HFF.out b o e; omega
  · exact (Below.setCell (Below.setCell (Below.setCell (Below.setCell (Below.setCell (Below.setCell HB2.out (p := ⟨w.heap.size, 0, none⟩) (Nat.le_refl _) _) (p := ⟨w.heap.size, 1, none⟩) (Nat.le_refl _) _) (p := ⟨w.heap.size, 2, none⟩) (Nat.le_refl _) _) (p := ⟨w.heap.size, 3, none⟩) (Nat.le_refl _) _) (p := ⟨w.heap.size, 4, none⟩) (Nat.le_refl _) _) (p := ⟨w.heap.size, 5, none⟩) (Nat.le_refl _) _)
set_option maxHeartbeats 8000000 in
set_option maxRecDepth 100000 in
theorem newerOf0_calls (l : List UInt8) (hl : l.length ≤ 10000) (w : World) :
    Calls Tryz.prog 58 #[.int .u8 78, .string ⟨l.toArray⟩, funV 59, funV 47] w fun e w' => ∃ ea ec, e = .returned (.tuple #[newerV (rdN l).2.t (rdN l).2.g0 (rdN l).2.g1 (rdN l).2.nx (.slice ea (rdN l).2.es.length ec), errV (rdN l).1]) ∧ InW w' (rdN l).2 ea ec ∧ Below w.heap.size w w' ∧ Frsh w.heap.size ea := by
  obtain ⟨W, hW⟩ : ∃ W, (w.alloc (.cells #[.int .i64 0, .int .i64 0, .int .i64 0, .int .i64 0, .slice none 0 0] 32)).alloc (.cells #[.int .i64 0, .int .i64 0, .int .i64 0, .int .i64 0, .slice none 0 0] 32) = W := ⟨_, rfl⟩
  have hbW : Below w.heap.size w W := by rw [← hW]; exact ((Below.refl _ w).alloc (Nat.le_refl _) _).alloc (by simp [go_sem]) _
  have hsW : W.heap.size = w.heap.size + 2 := by rw [← hW]; simp [go_sem]
  have hh0 : W.heap[w.heap.size]? = some (.cells #[.int .i64 0, .int .i64 0, .int .i64 0, .int .i64 0, .slice none 0 0] 32) := by
    rw [← hW, heap_alloc_old _ _ (by simp [go_sem])]
    exact heap_alloc_new w _
  have hh1 : W.heap[w.heap.size + 1]? = some (.cells #[.int .i64 0, .int .i64 0, .int .i64 0, .int .i64 0, .slice none 0 0] 32) := by
    have e : w.heap.size + 1 = (w.alloc (.cells #[.int .i64 0, .int .i64 0, .int .i64 0, .int .i64 0, .slice none 0 0] 32)).heap.size := by simp [go_sem]
    rw [← hW, e]
    exact heap_alloc_new _ _
  have HO := hid (open_calls 78 l (by omega) W)
  have hob := openB_length 78 l
  have HRD : Hid (rdN l = rdN l) := rfl
  have HBW := hid hbW
  have HSW := hid hsW
  have H0 := hid hh0
  have H1 := hid hh1
  clear hbW hsW hh0 hh1
  by_cases hoe : openE 78 l = 0
  case neg =>
    have HY : Hid (rdN l = (openE 78 l, zeroS)) := if_neg hoe
    obtain ⟨oe, ho⟩ : ∃ oe, openE 78 l = oe := ⟨_, rfl⟩
    rw [ho] at HO hoe HY
    rw [errV_pos hoe] at HO
    have HEV : Hid (errV oe = .iface 86 (.int .i64 oe)) := errV_pos hoe
    clear ho hoe
    go_enter Tryz.func58, Tryz.ntmps58
    go_wp2_with fail
    refine HO.out.mono ?_
    rintro e w2 ⟨rfl, hb2⟩
    have h02 := (hb2.block w.heap.size (by rw [HSW.out]; omega)).trans H0.out
    obtain ⟨q0, q1, q2, q3, q4, _⟩ := five_cells h02
    have qf := fun j => frozen_of_row w2 w.heap.size j _ _ h02
    obtain ⟨y0, y1, y2, y3, y4, _⟩ := five_cells ((hb2.block (w.heap.size + 1) (by rw [HSW.out]; omega)).trans H1.out)
    have HB2 : Hid (Below w.heap.size w w2) := HBW.out.trans (hb2.mono (by rw [HSW.out]; omega))
    clear hb2 h02 HO hW
    go_wp2
    rw [HY.out, HEV.out]
    refine bodyPost_ret (v := .tuple #[newerV 0 0 0 0 (.slice none 0 0), .iface 86 (.int .i64 oe)]) (by simp [results, Tryz.results58, go_sem, q0, q1, q2, q3, q4]) rfl ⟨none, 0, rfl, inW_zero _, ?_, frsh_none _⟩
    exact (Below.setCell (Below.setCell (Below.setCell (Below.setCell (Below.setCell HB2.out (p := ⟨w.heap.size, 0, none⟩) (Nat.le_refl _) _) (p := ⟨w.heap.size, 1, none⟩) (Nat.le_refl _) _) (p := ⟨w.heap.size, 2, none⟩) (Nat.le_refl _) _) (p := ⟨w.heap.size, 3, none⟩) (Nat.le_refl _) _) (p := ⟨w.heap.size, 4, none⟩) (Nat.le_refl _) _)
  rw [hoe, show errV 0 = .nilIface from rfl] at HO
  obtain ⟨R, hR⟩ : ∃ R, (Rd.mk (openB 78 l) 0).newer = R := ⟨_, rfl⟩
  have HY : Hid (rdN l = if R.2.over = 0 then (if ckN R.1 = 0 then (0, R.1) else (ckN R.1, zeroS)) else (R.2.over, zeroS)) := by
    show _ = _
    rw [← hR]
    exact if_pos hoe
  have HRR := hid hR
  obtain ⟨body, hbd⟩ : ∃ body, openB 78 l = body := ⟨_, rfl⟩
  rw [hbd] at HO hob HRR
  clear hoe hR hbd HRD
  go_enter Tryz.func58, Tryz.ntmps58
  go_wp2_with fail
  refine HO.out.mono ?_
  rintro e w2 ⟨rfl, hb2⟩
  obtain ⟨X, hX⟩ : ∃ X, w2.alloc (.cells #[.string ⟨body.toArray⟩, .nilIface] 147) = X := ⟨_, rfl⟩
  have hbX : Below w2.heap.size w2 X := by rw [← hX]; exact (Below.refl _ _).alloc (Nat.le_refl _) _
  have hrX : RdAt w2.heap.size ⟨body, 0⟩ X := ⟨body, by rw [← hX]; exact heap_alloc_new _ _, fun _ => rfl, by omega⟩
  have hWX : Below W.heap.size W X := hb2.trans (hbX.mono hb2.size)
  have hs2 := hb2.size
  have hsX := hbX.size
  have HWX := hid hWX
  have HRE := hid (readNewer_calls w2.heap.size ⟨body, 0⟩ X hrX)
  rw [HRR.out] at HRE
  have hsw := HSW.out
  have HXX := hid hX
  clear hb2 hbX hrX hWX HO hW hX
  go_upto_region 6 with fail
  rw [HXX.out]
  go_wp2_with fail
  refine HRE.out.mono ?_
  rintro e w3 ⟨ea, ec, rfl, hi3, hr3, hk3, hfe⟩
  have HFE := hid hfe
  clear hfe
  obtain ⟨S, hS⟩ : ∃ S, R.1 = S := ⟨_, rfl⟩
  obtain ⟨E, hE⟩ : ∃ E, R.2 = E := ⟨_, rfl⟩
  rw [hS] at hi3 ⊢
  rw [hE] at hr3
  rw [hS, hE] at HY
  obtain ⟨V, hV⟩ : ∃ V, w3.alloc (.cells (newerC S.t S.g0 S.g1 S.nx (.slice ea S.es.length ec)) 32) = V := ⟨_, rfl⟩
  have hbV : Below w3.heap.size w3 V := by rw [← hV]; exact (Below.refl _ _).alloc (Nat.le_refl _) _
  have hhV : V.heap[w3.heap.size]? = some (.cells (newerC S.t S.g0 S.g1 S.nx (.slice ea S.es.length ec)) 32) := by rw [← hV]; exact heap_alloc_new _ _
  have h03 := (hk3.2 w.heap.size (by omega) (fun e => by have e' := Option.some.inj e; omega)).trans ((HWX.out.block w.heap.size (by omega)).trans H0.out)
  have h13 := (hk3.2 (w.heap.size + 1) (by omega) (fun e => by have e' := Option.some.inj e; omega)).trans ((HWX.out.block (w.heap.size + 1) (by omega)).trans H1.out)
  have hs3 := hk3.1.size
  have HG0 := hid ((hbV.block w.heap.size (by omega)).trans h03)
  have HG1 := hid ((hbV.block (w.heap.size + 1) (by omega)).trans h13)
  have hiV := hi3.below hbV
  have HEN := hid (readEnd_calls w2.heap.size E V (hr3.below hbV))
  have HBV : Hid (Below w.heap.size w V) := by
    have h1 : Below W.heap.size W w3 := HWX.out.trans (hk3.base (B := W.heap.size) (by omega) (fun k e => by have e' := Option.some.inj e; omega))
    exact (HBW.out.trans (h1.mono (by omega))).trans (hbV.mono (by omega))
  have hc : Calls Tryz.prog 47 #[newerV S.t S.g0 S.g1 S.nx (.slice ea S.es.length ec)] V fun e w' => e = .returned (errV (ckN S)) ∧ Below V.heap.size V w' := checkNewer_calls S.t S.g0 S.g1 S.nx S.es ea ec V hiV.rows
  have HCK := hid hc
  have HIV := hid hiV
  have HHV := hid hhV
  have hsV := hbV.size
  have HVX := hid hV
  clear hV hc hiV hhV hbV h03 h13 hi3 hr3 hk3 HRE hS hE HRR HXX
  go_upto_region 7 with fail
  rw [HVX.out]
  go_wp2_with fail
  refine HEN.out.mono ?_
  rintro e w4 ⟨rfl, hw4⟩
  rw [hw4]
  clear hw4 w4 HVX
  by_cases hov : E.over = 0
  case neg =>
    rw [if_neg hov] at HY
    obtain ⟨oe, ho⟩ : ∃ oe, E.over = oe := ⟨_, rfl⟩
    rw [ho] at hov HY ⊢
    have HEV : Hid (errV oe = .iface 86 (.int .i64 oe)) := errV_pos hov
    rw [errV_pos hov]
    obtain ⟨q0, q1, q2, q3, q4, _⟩ := five_cells HG0.out
    have qf := fun j => frozen_of_row V w.heap.size j _ _ HG0.out
    obtain ⟨y0, y1, y2, y3, y4, _⟩ := five_cells HG1.out
    clear ho hov HEN HCK
    go_wp2
    rw [HY.out, HEV.out]
    refine bodyPost_ret (v := .tuple #[newerV 0 0 0 0 (.slice none 0 0), .iface 86 (.int .i64 oe)]) (by simp [results, Tryz.results58, go_sem, q0, q1, q2, q3, q4]) rfl ⟨none, 0, rfl, inW_zero _, ?_, frsh_none _⟩
    exact (Below.setCell (Below.setCell (Below.setCell (Below.setCell (Below.setCell HBV.out (p := ⟨w.heap.size, 0, none⟩) (Nat.le_refl _) _) (p := ⟨w.heap.size, 1, none⟩) (Nat.le_refl _) _) (p := ⟨w.heap.size, 2, none⟩) (Nat.le_refl _) _) (p := ⟨w.heap.size, 3, none⟩) (Nat.le_refl _) _) (p := ⟨w.heap.size, 4, none⟩) (Nat.le_refl _) _)
  rw [if_pos hov] at HY
  rw [hov, show errV 0 = .nilIface from rfl]
  obtain ⟨x0, x1, x2, x3, x4, _⟩ := five_cells HHV.out
  clear hov HEN
  go_wp2_with fail
  refine HCK.out.mono ?_
  rintro e w5 ⟨rfl, hb5⟩
  have h05 := (hb5.block w.heap.size (by omega)).trans HG0.out
  have h15 := (hb5.block (w.heap.size + 1) (by omega)).trans HG1.out
  have hV5 := (hb5.block w3.heap.size (Array.getElem?_eq_some_iff.1 HHV.out).1).trans HHV.out
  clear x0 x1 x2 x3 x4
  obtain ⟨x0, x1, x2, x3, x4, _⟩ := five_cells hV5
  obtain ⟨q0, q1, q2, q3, q4, _⟩ := five_cells h05
  have qf := fun j => frozen_of_row w5 w.heap.size j _ _ h05
  obtain ⟨y0, y1, y2, y3, y4, _⟩ := five_cells h15
  have HB5 : Hid (Below w.heap.size w w5) := HBV.out.trans (hb5.mono (by omega))
  have hi5 := HIV.out.below hb5
  have h05' := hid h05
  by_cases hck : ckN S = 0
  case neg =>
    rw [if_neg hck] at HY
    obtain ⟨oe, ho⟩ : ∃ oe, ckN S = oe := ⟨_, rfl⟩
    rw [ho] at hck HY ⊢
    have HEV : Hid (errV oe = .iface 86 (.int .i64 oe)) := errV_pos hck
    rw [errV_pos hck]
    clear ho hck HCK hb5 hi5 h05 h15 hV5
    go_wp2
    rw [HY.out, HEV.out]
    refine bodyPost_ret (v := .tuple #[newerV 0 0 0 0 (.slice none 0 0), .iface 86 (.int .i64 oe)]) (by simp [results, Tryz.results58, go_sem, q0, q1, q2, q3, q4]) rfl ⟨none, 0, rfl, inW_zero _, ?_, frsh_none _⟩
    exact (Below.setCell (Below.setCell (Below.setCell (Below.setCell (Below.setCell HB5.out (p := ⟨w.heap.size, 0, none⟩) (Nat.le_refl _) _) (p := ⟨w.heap.size, 1, none⟩) (Nat.le_refl _) _) (p := ⟨w.heap.size, 2, none⟩) (Nat.le_refl _) _) (p := ⟨w.heap.size, 3, none⟩) (Nat.le_refl _) _) (p := ⟨w.heap.size, 4, none⟩) (Nat.le_refl _) _)
  rw [if_pos hck] at HY
  rw [hck, show errV 0 = .nilIface from rfl]
  have HI5 := hid hi5
  clear hck HCK hb5 hi5 h05 h15 hV5
  go_wp2
  rw [HY.out]
  refine bodyPost_ret (v := .tuple #[newerV S.t S.g0 S.g1 S.nx (.slice ea S.es.length ec), .nilIface]) (by simp [results, Tryz.results58, go_sem, q0, q1, q2, q3, q4]) rfl ⟨ea, ec, rfl, ?_, ?_, frsh_mono HFE.out (by omega)⟩
  · refine ⟨HI5.out.un, HI5.out.cap, recs_blk HI5.out.rows (fun b o e => setS5_heap ?_), HI5.out.fr, HI5.out.born⟩
    have := HFE.out b o e
    omega
  · exact (Below.setCell (Below.setCell (Below.setCell (Below.setCell (Below.setCell HB5.out (p := ⟨w.heap.size, 0, none⟩) (Nat.le_refl _) _) (p := ⟨w.heap.size, 1, none⟩) (Nat.le_refl _) _) (p := ⟨w.heap.size, 2, none⟩) (Nat.le_refl _) _) (p := ⟨w.heap.size, 3, none⟩) (Nat.le_refl _) _) (p := ⟨w.heap.size, 4, none⟩) (Nat.le_refl _) _)
set_option maxHeartbeats 8000000 in
set_option maxRecDepth 100000 in
theorem newerOf_calls (l : List UInt8) (hl : l.length ≤ 10000) (w : World) :
    Calls Tryz.prog 24 #[.string ⟨l.toArray⟩] w fun e w' => ∃ ea ec, e = .returned (.tuple #[newerV (rdN l).2.t (rdN l).2.g0 (rdN l).2.g1 (rdN l).2.nx (.slice ea (rdN l).2.es.length ec), errV (rdN l).1]) ∧ InW w' (rdN l).2 ea ec ∧ Below w.heap.size w w' := by
  obtain ⟨W, hW⟩ : ∃ W, w.alloc (.cells #[.int .i64 0, .int .i64 0, .int .i64 0, .int .i64 0, .slice none 0 0] 32) = W := ⟨_, rfl⟩
  have hbW : Below w.heap.size w W := by rw [← hW]; exact (Below.refl _ w).alloc (Nat.le_refl _) _
  have hsW : w.heap.size < W.heap.size := by rw [← hW]; simp [go_sem]
  have hh0 : W.heap[w.heap.size]? = some (.cells #[.int .i64 0, .int .i64 0, .int .i64 0, .int .i64 0, .slice none 0 0] 32) := by rw [← hW]; exact heap_alloc_new _ _
  have HC := hid (newerOf0_calls l hl W)
  obtain ⟨R, hR⟩ : ∃ R, rdN l = R := ⟨_, rfl⟩
  rw [hR] at HC ⊢
  have HBW := hid hbW
  have H0 := hid hh0
  clear hR hbW hh0
  go_enter Tryz.func24, Tryz.ntmps24
  go_wp2_with fail
  refine HC.out.mono ?_
  rintro e w2 ⟨ea, ec, rfl, hi2, hb2, hfe⟩
  obtain ⟨ev, hev⟩ : ∃ ev, errV R.1 = ev := ⟨_, rfl⟩
  rw [hev]
  have h02 := (hb2.block w.heap.size hsW).trans H0.out
  obtain ⟨q0, q1, q2, q3, q4, _⟩ := five_cells h02
  have qf := fun j => frozen_of_row w2 w.heap.size j _ _ h02
  have HB2 : Hid (Below w.heap.size w w2) := HBW.out.trans (hb2.mono (Nat.le_of_lt hsW))
  have HI2 := hid hi2
  have HFE := hid hfe
  clear hfe
  have HEV := hid hev
  clear hi2 hb2 h02 HC hW hev
  go_wp2
  refine bodyPost_ret (v := .tuple #[newerV R.2.t R.2.g0 R.2.g1 R.2.nx (.slice ea R.2.es.length ec), ev]) (by simp [results, Tryz.results24, go_sem, q0, q1, q2, q3, q4]) rfl ⟨ea, ec, by rw [HEV.out], ?_, ?_⟩
  · refine ⟨HI2.out.un, HI2.out.cap, recs_blk HI2.out.rows (fun b o e => setS5_heap ?_), HI2.out.fr, HI2.out.born⟩
    have := HFE.out b o e
    omega
  · exact (Below.setCell (Below.setCell (Below.setCell (Below.setCell (Below.setCell HB2.out (p := ⟨w.heap.size, 0, none⟩) (Nat.le_refl _) _) (p := ⟨w.heap.size, 1, none⟩) (Nat.le_refl _) _) (p := ⟨w.heap.size, 2, none⟩) (Nat.le_refl _) _) (p := ⟨w.heap.size, 3, none⟩) (Nat.le_refl _) _) (p := ⟨w.heap.size, 4, none⟩) (Nat.le_refl _) _)
end Go.Proofs.YtcbalhicaipmlaaGreat
