/- Package snap: may a reel be; a reel is read. -/
import Derived.Test.YtcbalhicaipmlaaGreatREqN
import Derived.Test.YtcbalhicaipmlaaGreatRSnL
import Derived.Test.YtcbalhicaipmlaaGreatRSnZ
import Derived.Test.YtcbalhicaipmlaaGreatRSnY
namespace Go.Proofs.YtcbalhicaipmlaaGreat
open Go.RowKit
theorem reel_cellsS {w : World} {b : Nat} {a0 a1 a2 a3 a4 a5 : Value} (h : w.heap[b]? = some (.cells #[a0, a1, a2, a3, a4, a5] 35)) :
    w.cell? ⟨b, 0, none⟩ = some a0 ∧ w.cell? ⟨b, 1, none⟩ = some a1 ∧ w.cell? ⟨b, 2, none⟩ = some a2 ∧ w.cell? ⟨b, 3, none⟩ = some a3 ∧ w.cell? ⟨b, 4, none⟩ = some a4 ∧ w.cell? ⟨b, 5, none⟩ = some a5 :=
  ⟨cell_of_row w b 0 _ _ _ h, cell_of_row w b 1 _ _ _ h, cell_of_row w b 2 _ _ _ h, cell_of_row w b 3 _ _ _ h, cell_of_row w b 4 _ _ _ h, cell_of_row w b 5 _ _ _ h⟩
def ckReel (s : St) (ls : List (List (List Int))) : Nat := ckT 6 (ckN s) s.t ls
set_option maxRecDepth 100000 in
set_option maxHeartbeats 4000000 in
theorem checkReel_calls (s : St) (ea ta : Option Addr) (ec tc : Nat) (ls : List (List (List Int))) (w : World) (h : InW w s ea ec) (hn : ls.length ≤ 1000) (ht : TksN w ta ls) :
    Calls Tryz.prog 18 #[reelV s.t s.g0 s.g1 s.nx (.slice ea s.es.length ec) (.slice ta ls.length tc)] w fun e w' => e = .returned (errV (ckReel s ls)) ∧ Below w.heap.size w w' := by
  obtain ⟨W, hW⟩ : ∃ W, w.alloc (.cells (reelC s.t s.g0 s.g1 s.nx (.slice ea s.es.length ec) (.slice ta ls.length tc)) 35) = W := ⟨_, rfl⟩
  have hbW : Below w.heap.size w W := by rw [← hW]; exact (Below.refl _ w).alloc (Nat.le_refl _) _
  have hh : W.heap[w.heap.size]? = some (.cells (reelC s.t s.g0 s.g1 s.nx (.slice ea s.es.length ec) (.slice ta ls.length tc)) 35) := by rw [← hW]; exact heap_alloc_new w _
  obtain ⟨x0, x1, x2, x3, x4, x5⟩ := reel_cellsS hh
  have hin := h.below hbW
  have HC : Hid (Calls Tryz.prog 47 #[newerV s.t s.g0 s.g1 s.nx (.slice ea s.es.length ec)] W fun e w' => e = .returned (errV (ckN s)) ∧ Below W.heap.size W w') := checkNewer_calls s.t s.g0 s.g1 s.nx s.es ea ec W hin.rows
  have HBW := hid hbW
  have HH := hid hh
  have HT := hid (ht.below hbW)
  have hsz : w.heap.size < W.heap.size := (Array.getElem?_eq_some_iff.1 hh).1
  have hfr := h.fr
  clear h hin hbW hh ht
  unfold ckReel
  by_cases hc : ckN s = 0
  · have hI := invN_of_check hfr hc
    have ht0 := hI.t0
    have ht1 := hI.t1
    rw [hc, errV_zero] at HC
    rw [hc, ckT_ckL]
    clear hI hc
    go_enter Tryz.func18, Tryz.ntmps18
    go_wp2_with fail
    refine HC.out.mono ?_
    rintro e w2 ⟨rfl, hb2⟩
    have hq := (hb2.block _ hsz).trans HH.out
    have y0 : w2.cell? ⟨w.heap.size, 0, none⟩ = some (.int .i64 s.t) := cell_of_row w2 _ 0 _ _ _ hq
    have y5 : w2.cell? ⟨w.heap.size, 5, none⟩ = some (.slice ta ls.length tc) := cell_of_row w2 _ 5 _ _ _ hq
    have HB2 : Hid (Below w.heap.size w w2) := HBW.out.trans (hb2.mono (by omega))
    have HCT := hid (checkTicksO_calls ls ta tc s.t w2 ⟨by omega, by omega⟩ hn (HT.out.below hb2))
    clear HC hb2 hq x0 x1 x2 x3 x4 x5 hW
    go_wp2_with fail
    refine HCT.out.mono ?_
    rintro e w3 ⟨rfl, hb3⟩
    have HB3 : Hid (Below w.heap.size w w3) := HB2.out.trans (hb3.mono HB2.out.size)
    clear HCT hb3 y0 y5
    obtain ⟨v, hv⟩ : ∃ v, errV (ckL 6 s.t ls) = v := ⟨_, rfl⟩
    have HV := hid hv
    rw [hv]
    clear hv
    go_wp2
    go_ret
    exact ⟨by rw [HV.out]; rfl, HB3.out⟩
  · rw [ckT_bad hc]
    rw [errV_some hc] at HC ⊢
    generalize ckN s = n at HC
    clear hc
    go_enter Tryz.func18, Tryz.ntmps18
    go_wp2_with fail
    refine HC.out.mono ?_
    rintro e w2 ⟨rfl, hb2⟩
    have HB2 : Hid (Below w.heap.size w w2) := HBW.out.trans (hb2.mono (by omega))
    clear HC hb2 x0 x1 x2 x3 x4 x5 hW
    go_wp2
    go_ret
    exact ⟨rfl, HB2.out⟩
def ReelRP (p : Nat) (r : Rd) (w : World) (e : Ending) (w' : World) : Prop :=
  ∃ ea ta ec tc, e = .returned (reelV r.newer.1.t r.newer.1.g0 r.newer.1.g1 r.newer.1.nx (.slice ea r.newer.1.es.length ec) (.slice ta (Rd.tape 6 r.newer.2).1.length tc)) ∧ InW w' r.newer.1 ea ec ∧ RdAt p (Rd.tape 6 r.newer.2).2 w' ∧ Keep w (some p) w' ∧ Frsh w.heap.size ea ∧ TksRO w.heap.size w' (.slice ta (Rd.tape 6 r.newer.2).1.length tc) (Rd.tape 6 r.newer.2).1
abbrev zeroRl : Array Value := reelC 0 0 0 0 (.slice none 0 0) (.slice none 0 0)
theorem inW_blk {w w' : World} {s : St} {ea : Option Addr} {ec : Nat} (h : InW w s ea ec) (he : ∀ b o, ea = some ⟨b, o, none⟩ → b < w.heap.size → w'.heap[b]? = w.heap[b]?) : InW w' s ea ec :=
  ⟨h.un, h.cap, recs_blkL (by omega) h.rows he, h.fr, h.born⟩
theorem tksRO_base {B B' : Nat} {w : World} {v : Value} {ls : List (List (List Int))} (h : TksRO B w v ls) (hB : B' ≤ B) : TksRO B' w v ls := by
  obtain ⟨vs, hl, hr, hi⟩ := h
  refine ⟨vs, hl, own_monoS hr hB, fun i hil => ?_⟩
  obtain ⟨la, lc, h1, h2, h3⟩ := hi i hil
  refine ⟨la, lc, h1, h2, ?_⟩
  rcases h3 with h3 | ⟨b, e, hb, hw, hv⟩
  · exact Or.inl h3
  · exact Or.inr ⟨b, e, by omega, hw, hv⟩
theorem tksRO_nil (B : Nat) (w : World) : TksRO B w (.slice none 0 0) [] := ⟨[], rfl, World.ownsRow_nil _ _ _ _, fun _ hi => absurd hi (Nat.not_lt_zero _)⟩
def five5 (w : World) (b : Nat) (a0 a1 a2 a3 a4 : Value) : World := ((((w.setCell ⟨b, 0, none⟩ a0).setCell ⟨b, 1, none⟩ a1).setCell ⟨b, 2, none⟩ a2).setCell ⟨b, 3, none⟩ a3).setCell ⟨b, 4, none⟩ a4
theorem heap_five5 {w : World} {b k : Nat} {a0 a1 a2 a3 a4 : Value} (h : k ≠ b) : (five5 w b a0 a1 a2 a3 a4).heap[k]? = w.heap[k]? := (heap_setCell_other _ ⟨b, 4, none⟩ k _ h).trans (head_off h)
theorem size_five5 (w : World) (b : Nat) (a0 a1 a2 a3 a4 : Value) : (five5 w b a0 a1 a2 a3 a4).heap.size = w.heap.size := by unfold five5; simp only [World.size_setCell]
theorem five_reel {w : World} {b : Nat} {a0 a1 a2 a3 a4 a5 c0 c1 c2 c3 c4 : Value} (h : w.heap[b]? = some (.cells #[a0, a1, a2, a3, a4, a5] 35)) : (five5 w b c0 c1 c2 c3 c4).heap[b]? = some (.cells #[c0, c1, c2, c3, c4, a5] 35) :=
  heap_setCell_same _ b 4 _ _ c4 (heap_setCell_same _ b 3 _ _ c3 (heap_setCell_same _ b 2 _ _ c2 (heap_setCell_same _ b 1 _ _ c1 (heap_setCell_same w b 0 _ _ c0 h))))
theorem keep_five5 {W w : World} {ob : Option Nat} {b : Nat} {a0 a1 a2 a3 a4 : Value} (h : Keep W ob w) (hb : W.heap.size ≤ b) : Keep W ob (five5 w b a0 a1 a2 a3 a4) := keep_off (keep_off (keep_off (keep_off (keep_off h hb) hb) hb) hb) hb
theorem rd_five5 {w : World} {p b : Nat} {r : Rd} {a0 a1 a2 a3 a4 : Value} (h : RdAt p r w) (hn : p ≠ b) : RdAt p r (five5 w b a0 a1 a2 a3 a4) := rd_off (rd_off (rd_off (rd_off (rd_off h hn) hn) hn) hn) hn
set_option maxHeartbeats 8000000 in
set_option maxRecDepth 100000 in
theorem readReel_calls (p : Nat) (r : Rd) (w : World) (h : RdAt p r w) :
    Calls Tryz.prog 51 #[.pointer (some ⟨p, 0, none⟩)] w (ReelRP p r w) := by
  obtain ⟨W, hW⟩ : ∃ W, (w.alloc (.cells zeroRl 35)).alloc (.cells zeroRl 35) = W := ⟨_, rfl⟩
  have hbW : Below w.heap.size w W := by rw [← hW]; exact ((Below.refl _ w).alloc (Nat.le_refl _) _).alloc (by simp [go_sem]) _
  have hsW : W.heap.size = w.heap.size + 2 := by rw [← hW]; simp [go_sem]
  have hh0 : W.heap[w.heap.size]? = some (.cells zeroRl 35) := by
    rw [← hW, heap_alloc_old _ _ (by simp [go_sem])]
    exact heap_alloc_new w _
  have hh1 : W.heap[w.heap.size + 1]? = some (.cells zeroRl 35) := by
    have e : w.heap.size + 1 = (w.alloc (.cells zeroRl 35)).heap.size := by simp [go_sem]
    rw [← hW, e]
    exact heap_alloc_new _ _
  have hp := h.lt
  have HC := hid (readNewer_calls p r W (h.below hbW))
  have HBW := hid hbW
  have HSW := hid hsW
  have H0 := hid hh0
  have H1 := hid hh1
  obtain ⟨R, hR⟩ : ∃ R, r.newer = R := ⟨_, rfl⟩
  have HR := hid hR
  rw [hR] at HC
  clear h hbW hsW hh0 hh1 hR
  go_enter Tryz.func51, Tryz.ntmps51
  go_wp2_with fail
  refine HC.out.mono ?_
  rintro e w2 ⟨ea, ec, rfl, hin2, h2, k2, hfe⟩
  have hb12 := (k2.2 (w.heap.size + 1) (by rw [HSW.out]; omega) (fun e => by cases e; omega)).trans H1.out
  have hb02 := (k2.2 w.heap.size (by rw [HSW.out]; omega) (fun e => by cases e; omega)).trans H0.out
  have hs2 := k2.1.size
  obtain ⟨x0, x1, x2, x3, x4, x5⟩ := reel_cellsS hb12
  have xf := fun j => frozen_of_row w2 (w.heap.size + 1) j _ _ hb12
  obtain ⟨V, hV⟩ : ∃ V, five5 w2 (w.heap.size + 1) (.int .i64 R.1.t) (.int .i64 R.1.g0) (.int .i64 R.1.g1) (.int .i64 R.1.nx) (.slice ea R.1.es.length ec) = V := ⟨_, rfl⟩
  have hsV : V.heap.size = w2.heap.size := by rw [← hV]; exact size_five5 _ _ _ _ _ _ _
  have hVk : ∀ k, k ≠ w.heap.size + 1 → V.heap[k]? = w2.heap[k]? := fun k hk => by rw [← hV]; exact heap_five5 hk
  have hV1 : V.heap[w.heap.size + 1]? = some (.cells (reelC R.1.t R.1.g0 R.1.g1 R.1.nx (.slice ea R.1.es.length ec) (.slice none 0 0)) 35) := by rw [← hV]; exact five_reel hb12
  have hrV : RdAt p R.2 V := by rw [← hV]; exact rd_five5 h2 (by omega)
  have hkV : Keep w (some p) V := by rw [← hV]; exact keep_five5 (keep_from HBW.out k2) (by omega)
  have HCT := hid (readTicksO_calls p R.2 V hrV)
  have HIN : Hid (InW V R.1 ea ec) := inW_blk hin2 (fun b o e _ => hVk b (by have := hfe b o e; rw [HSW.out] at this; omega))
  have HFE := hid hfe
  have HV1 := hid hV1
  have HV0 := hid ((hVk w.heap.size (by omega)).trans hb02)
  have HKV := hid hkV
  have HVE := hid hV
  clear HC hin2 h2 k2 hfe hb12 hb02 hV1 hrV hkV hVk hV hW
  go_upto_region 3 with fail
  have hve := HVE.out
  unfold five5 at hve
  rw [hve]
  clear hve HVE x0 x1 x2 x3 x4 x5 xf
  go_wp2_with fail
  refine HCT.out.mono ?_
  rintro e w4 ⟨v, rfl, hT4, h4, k4⟩
  obtain ⟨ta, tc, rfl, htl, htk, _, hfr⟩ := hT4.tks
  have hsV2 : w.heap.size + 2 ≤ V.heap.size := by have := HSW.out; omega
  have hb14 := (k4.2 (w.heap.size + 1) (by omega) (fun e => by cases e; omega)).trans HV1.out
  have hb04 := (k4.2 w.heap.size (by omega) (fun e => by cases e; omega)).trans HV0.out
  have hs4 := k4.1.size
  obtain ⟨Q, hQ⟩ : ∃ Q, Rd.tape 6 R.2 = Q := ⟨_, rfl⟩
  rw [hQ] at hT4 h4 htl htk
  simp only [hQ]
  have HQ := hid hQ
  have y5 := (reel_cellsS hb14).2.2.2.2.2
  have yf := fun j => frozen_of_row w4 (w.heap.size + 1) j _ _ hb14
  obtain ⟨U, hU⟩ : ∃ U, w4.setCell ⟨w.heap.size + 1, 5, none⟩ (.slice ta Q.1.length tc) = U := ⟨_, rfl⟩
  have hsU : U.heap.size = w4.heap.size := by rw [← hU]; exact World.size_setCell _ _ _
  have hUk : ∀ k, k ≠ w.heap.size + 1 → U.heap[k]? = w4.heap[k]? := fun k hk => by rw [← hU]; exact heap_setCell_other w4 ⟨w.heap.size + 1, 5, none⟩ k _ hk
  have hU1 : U.heap[w.heap.size + 1]? = some (.cells (reelC R.1.t R.1.g0 R.1.g1 R.1.nx (.slice ea R.1.es.length ec) (.slice ta Q.1.length tc)) 35) := by rw [← hU]; exact heap_setCell_same w4 (w.heap.size + 1) 5 _ _ _ hb14
  have hU0 := (hUk w.heap.size (by omega)).trans hb04
  have hrU : RdAt p Q.2 U := by rw [← hU]; exact rd_off h4 (by omega)
  have hkU : Keep w (some p) U := by rw [← hU]; exact keep_off (keep_trans HKV.out k4) (by omega)
  have hinU : InW U R.1 ea ec := inW_blk HIN.out
    (fun b o e hlt => by have hb := HFE.out b o e; rw [HSW.out] at hb; exact (hUk b (by omega)).trans (k4.2 b hlt (fun e => by cases e; omega)))
  have hTU : TksRO V.heap.size U (.slice ta Q.1.length tc) Q.1 := hT4.same (by omega) (fun k hk _ => hUk k (by omega))
  have HUE := hid hU
  have HrU := hid hrU
  have HkU := hid hkU
  have HinU := hid hinU
  have HTU := hid hTU
  have HU0 := hid hU0
  have HU1 := hid hU1
  clear hT4 h4 k4 htk hfr hb14 hb04 hUk hU1 hU0 hrU hkU hinU hTU hU HIN HCT HV1 HV0 HKV hQ htl
  go_upto_region 4 with fail
  rw [HUE.out]
  clear HUE y5 yf
  obtain ⟨x0, x1, x2, x3, x4, x5⟩ := reel_cellsS HU1.out
  obtain ⟨q0, q1, q2, q3, q4, q5⟩ := reel_cellsS HU0.out
  have qf := fun j => frozen_of_row U w.heap.size j _ _ HU0.out
  go_wp2
  refine bodyPost_ret (v := reelV R.1.t R.1.g0 R.1.g1 R.1.nx (.slice ea R.1.es.length ec) (.slice ta Q.1.length tc)) (by simp [results, Tryz.results51, go_sem, q0, q1, q2, q3, q4, q5]) rfl ?_
  show ReelRP p r w _ (sixS U w.heap.size (.int .i64 R.1.t) (.int .i64 R.1.g0) (.int .i64 R.1.g1) (.int .i64 R.1.nx) (.slice ea R.1.es.length ec) (.slice ta Q.1.length tc))
  unfold ReelRP
  rw [HR.out, HQ.out]
  have hT7 : TksRO V.heap.size (sixS U w.heap.size (.int .i64 R.1.t) (.int .i64 R.1.g0) (.int .i64 R.1.g1) (.int .i64 R.1.nx) (.slice ea R.1.es.length ec) (.slice ta Q.1.length tc)) (.slice ta Q.1.length tc) Q.1 := HTU.out.same (by rw [size_six]; exact Nat.le_refl _) (fun k hk _ => heap_sixS (by omega))
  exact ⟨ea, ta, ec, tc, rfl, inW_blk HinU.out (fun b o e _ => heap_sixS (by have := HFE.out b o e; rw [HSW.out] at this; omega)), rd_six HrU.out (by omega), keep_six HkU.out (Nat.le_refl _), frsh_mono HFE.out (by rw [HSW.out]; omega), tksRO_base hT7 (by omega)⟩
end Go.Proofs.YtcbalhicaipmlaaGreat
