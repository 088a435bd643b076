/- Package snap: a tape is read. -/
import Derived.Test.YtcbalhicaipmlaaGreatRRefQ
import Derived.Test.YtcbalhicaipmlaaGreatRSnM
import Derived.Test.YtcbalhicaipmlaaGreatRSnN
import Derived.Test.YtcbalhicaipmlaaGreatRSnU
import Derived.Test.YtcbalhicaipmlaaGreatREsRA
import Derived.Test.YtcbalhicaipmlaaGreatRSnB
import Derived.Test.YtcbalhicaipmlaaGreatRWire6
import Derived.Test.YtcbalhicaipmlaaGreatRCkB
namespace Go.Proofs.YtcbalhicaipmlaaGreat
open Go.RowKit
theorem own_monoS {w : World} {base base' : Nat} {e : TypeId} {size : Nat} {v : Value} {n : Nat} {xs : List Value} (h : w.ownsRow base e size v n xs) (hb : base' ≤ base) : w.ownsRow base' e size v n xs := by
  refine ⟨h.1, ?_⟩
  rcases h.2 with hn | ⟨g, cap, cur, rfl, hbg, rest⟩
  · exact .inl hn
  · exact .inr ⟨g, cap, cur, rfl, by omega, rest⟩
theorem tape_cellsS {w : World} {b : Nat} {a0 a1 a2 a3 a4 a5 a6 : Value} (h : w.heap[b]? = some (.cells #[a0, a1, a2, a3, a4, a5, a6] 29)) :
    w.cell? ⟨b, 0, none⟩ = some a0 ∧ w.cell? ⟨b, 1, none⟩ = some a1 ∧ w.cell? ⟨b, 2, none⟩ = some a2 ∧ w.cell? ⟨b, 3, none⟩ = some a3 ∧ w.cell? ⟨b, 4, none⟩ = some a4 ∧ w.cell? ⟨b, 5, none⟩ = some a5 ∧ w.cell? ⟨b, 6, none⟩ = some a6 :=
  ⟨cell_of_row w b 0 _ _ _ h, cell_of_row w b 1 _ _ _ h, cell_of_row w b 2 _ _ _ h, cell_of_row w b 3 _ _ _ h, cell_of_row w b 4 _ _ _ h, cell_of_row w b 5 _ _ _ h, cell_of_row w b 6 _ _ _ h⟩
def sixS (w : World) (b : Nat) (a0 a1 a2 a3 a4 a5 : Value) : World := (((((w.setCell ⟨b, 0, none⟩ a0).setCell ⟨b, 1, none⟩ a1).setCell ⟨b, 2, none⟩ a2).setCell ⟨b, 3, none⟩ a3).setCell ⟨b, 4, none⟩ a4).setCell ⟨b, 5, none⟩ a5
theorem heap_sixS {w : World} {b k : Nat} {a0 a1 a2 a3 a4 a5 : Value} (h : k ≠ b) : (sixS w b a0 a1 a2 a3 a4 a5).heap[k]? = w.heap[k]? :=
  (heap_setCell_other _ ⟨b, 5, none⟩ k _ h).trans ((heap_setCell_other _ ⟨b, 4, none⟩ k _ h).trans ((heap_setCell_other _ ⟨b, 3, none⟩ k _ h).trans ((heap_setCell_other _ ⟨b, 2, none⟩ k _ h).trans ((heap_setCell_other _ ⟨b, 1, none⟩ k _ h).trans (heap_setCell_other _ ⟨b, 0, none⟩ k _ h)))))
def TapeRP (p : Nat) (r : Rd) (w : World) (e : Ending) (w' : World) : Prop :=
  ∃ fa ea ta fc ec tc, e = .returned (tapeV r.elder.1.t r.elder.1.g0 r.elder.1.g1 r.elder.1.nx (.slice fa r.elder.1.free.length fc) (.slice ea r.elder.1.es.length ec) (.slice ta (Rd.tape 7 r.elder.2).1.length tc)) ∧ InE w' r.elder.1 fa ea fc ec ∧ Tks w' ta (Rd.tape 7 r.elder.2).1 ∧ (Rd.tape 7 r.elder.2).1.length ≤ tc ∧ RdAt p (Rd.tape 7 r.elder.2).2 w' ∧ Keep w (some p) w' ∧ Frsh w.heap.size fa ∧ Frsh w.heap.size ea ∧ TksR w.heap.size w' (.slice ta (Rd.tape 7 r.elder.2).1.length tc) (Rd.tape 7 r.elder.2).1
abbrev zero7 : Array Value := tapeC 0 0 0 0 (.slice none 0 0) (.slice none 0 0) (.slice none 0 0)
theorem recs_blkL {w w' : World} {a : Option Addr} {k : Nat} {rs : List (List Int)} (hk : 0 < k) (h : Recs w a k rs) (hb : ∀ b o, a = some ⟨b, o, none⟩ → b < w.heap.size → w'.heap[b]? = w.heap[b]?) : Recs w' a k rs := by
  by_cases h0 : rs = []
  · exact Or.inl h0
  · rcases h with h | ⟨b, o, e, hc⟩
    · exact Or.inl h
    · exact recs_blk (Or.inr ⟨b, o, e, hc⟩) (fun b' o' e' => hb b' o' e' (by
        rw [e] at e'
        cases e'
        exact World.block_lt_of_cell? w _ (hc 0 (List.length_pos_iff.2 h0) 0 hk)))
theorem nums_blkL {w w' : World} {a : Option Addr} {zs : List Int} (h : Nums w a zs) (hb : ∀ b o, a = some ⟨b, o, none⟩ → b < w.heap.size → w'.heap[b]? = w.heap[b]?) : Nums w' a zs := by
  by_cases h0 : zs = []
  · exact Or.inl h0
  · rcases h with h | ⟨b, o, e, hc⟩
    · exact Or.inl h
    · exact nums_blk (Or.inr ⟨b, o, e, hc⟩) (fun b' o' e' => hb b' o' e' (by
        rw [e] at e'
        cases e'
        exact World.block_lt_of_cell? w _ (hc 0 (List.length_pos_iff.2 h0))))
theorem inE_blk {w w' : World} {s : St} {fa ea : Option Addr} {fc ec : Nat} (h : InE w s fa ea fc ec) (hf : ∀ b o, fa = some ⟨b, o, none⟩ → b < w.heap.size → w'.heap[b]? = w.heap[b]?) (he : ∀ b o, ea = some ⟨b, o, none⟩ → b < w.heap.size → w'.heap[b]? = w.heap[b]?) : InE w' s fa ea fc ec :=
  ⟨h.fn, h.en, h.cap, recs_blkL (by omega) h.rows he, nums_blkL h.nums hf, h.wf, h.born⟩
theorem tksR_base {B B' : Nat} {w : World} {v : Value} {ls : List (List (List Int))} (h : TksR B w v ls) (hB : B' ≤ B) : TksR B' w v ls := by
  obtain ⟨vs, hl, hr, hi⟩ := h
  refine ⟨vs, hl, own_monoS hr hB, fun i hil => ?_⟩
  obtain ⟨la, lc, h1, h2, h3⟩ := hi i hil
  refine ⟨la, lc, h1, h2, ?_⟩
  rcases h3 with h3 | ⟨b, e, hb, hw, hv⟩
  · exact Or.inl h3
  · exact Or.inr ⟨b, e, by omega, hw, hv⟩
def set7 (w : World) (b : Nat) (a0 a1 a2 a3 a4 a5 a6 : Value) : World := ((((((w.setCell ⟨b, 0, none⟩ a0).setCell ⟨b, 1, none⟩ a1).setCell ⟨b, 2, none⟩ a2).setCell ⟨b, 3, none⟩ a3).setCell ⟨b, 4, none⟩ a4).setCell ⟨b, 5, none⟩ a5).setCell ⟨b, 6, none⟩ a6
theorem heap_seven {w : World} {b k : Nat} {a0 a1 a2 a3 a4 a5 a6 : Value} (h : k ≠ b) : (set7 w b a0 a1 a2 a3 a4 a5 a6).heap[k]? = w.heap[k]? := (heap_setCell_other _ ⟨b, 6, none⟩ k _ h).trans (heap_sixS h)
theorem size_six (w : World) (b : Nat) (a0 a1 a2 a3 a4 a5 : Value) : (sixS w b a0 a1 a2 a3 a4 a5).heap.size = w.heap.size := by unfold sixS; simp only [World.size_setCell]
theorem size_seven (w : World) (b : Nat) (a0 a1 a2 a3 a4 a5 a6 : Value) : (set7 w b a0 a1 a2 a3 a4 a5 a6).heap.size = w.heap.size := by unfold set7; simp only [World.size_setCell]
theorem six_tape {w : World} {b : Nat} {a0 a1 a2 a3 a4 a5 a6 c0 c1 c2 c3 c4 c5 : Value} (h : w.heap[b]? = some (.cells #[a0, a1, a2, a3, a4, a5, a6] 29)) : (sixS w b c0 c1 c2 c3 c4 c5).heap[b]? = some (.cells #[c0, c1, c2, c3, c4, c5, a6] 29) :=
  heap_setCell_same _ b 5 _ _ c5 (heap_setCell_same _ b 4 _ _ c4 (heap_setCell_same _ b 3 _ _ c3 (heap_setCell_same _ b 2 _ _ c2 (heap_setCell_same _ b 1 _ _ c1 (heap_setCell_same w b 0 _ _ c0 h)))))
theorem keep_six {W w : World} {ob : Option Nat} {b : Nat} {a0 a1 a2 a3 a4 a5 : Value} (h : Keep W ob w) (hb : W.heap.size ≤ b) : Keep W ob (sixS w b a0 a1 a2 a3 a4 a5) := keep_off (keep_off (keep_off (keep_off (keep_off (keep_off h hb) hb) hb) hb) hb) hb
theorem keep_seven {W w : World} {ob : Option Nat} {b : Nat} {a0 a1 a2 a3 a4 a5 a6 : Value} (h : Keep W ob w) (hb : W.heap.size ≤ b) : Keep W ob (set7 w b a0 a1 a2 a3 a4 a5 a6) := keep_off (keep_six h hb) hb
theorem rd_six {w : World} {p b : Nat} {r : Rd} {a0 a1 a2 a3 a4 a5 : Value} (h : RdAt p r w) (hn : p ≠ b) : RdAt p r (sixS w b a0 a1 a2 a3 a4 a5) := rd_off (rd_off (rd_off (rd_off (rd_off (rd_off h hn) hn) hn) hn) hn) hn
theorem rd_seven {w : World} {p b : Nat} {r : Rd} {a0 a1 a2 a3 a4 a5 a6 : Value} (h : RdAt p r w) (hn : p ≠ b) : RdAt p r (set7 w b a0 a1 a2 a3 a4 a5 a6) := rd_off (rd_six h hn) hn
set_option maxHeartbeats 8000000 in
set_option maxRecDepth 100000 in
theorem readTape_calls (p : Nat) (r : Rd) (w : World) (h : RdAt p r w) :
    Calls Tryz.prog 40 #[.pointer (some ⟨p, 0, none⟩)] w (TapeRP p r w) := by
  obtain ⟨W, hW⟩ : ∃ W, (w.alloc (.cells zero7 29)).alloc (.cells zero7 29) = W := ⟨_, rfl⟩
  have hbW : Below w.heap.size w W := by rw [← hW]; exact ((Below.refl _ w).alloc (Nat.le_refl _) _).alloc (by simp [go_sem]) _
  have hsW : W.heap.size = w.heap.size + 2 := by rw [← hW]; simp [go_sem]
  have hh0 : W.heap[w.heap.size]? = some (.cells zero7 29) := by
    rw [← hW, heap_alloc_old _ _ (by simp [go_sem])]
    exact heap_alloc_new w _
  have hh1 : W.heap[w.heap.size + 1]? = some (.cells zero7 29) := by
    have e : w.heap.size + 1 = (w.alloc (.cells zero7 29)).heap.size := by simp [go_sem]
    rw [← hW, e]
    exact heap_alloc_new _ _
  have hp := h.lt
  have HC := hid (readElder_calls p r W (h.below hbW))
  have HBW := hid hbW
  have HSW := hid hsW
  have H0 := hid hh0
  have H1 := hid hh1
  obtain ⟨R, hR⟩ : ∃ R, r.elder = R := ⟨_, rfl⟩
  have HR := hid hR
  rw [hR] at HC
  clear h hbW hsW hh0 hh1 hR
  go_enter Tryz.func40, Tryz.ntmps40
  go_wp2_with fail
  refine HC.out.mono ?_
  rintro e w2 ⟨fa, ea, fc, ec, rfl, hin2, h2, k2, hff, hfe⟩
  have hb12 := (k2.2 (w.heap.size + 1) (by rw [HSW.out]; omega) (fun e => by cases e; omega)).trans H1.out
  have hb02 := (k2.2 w.heap.size (by rw [HSW.out]; omega) (fun e => by cases e; omega)).trans H0.out
  have hs2 := k2.1.size
  obtain ⟨x0, x1, x2, x3, x4, x5, x6⟩ := tape_cellsS hb12
  have xf := fun j => frozen_of_row w2 (w.heap.size + 1) j _ _ hb12
  obtain ⟨V, hV⟩ : ∃ V, sixS w2 (w.heap.size + 1) (.int .i64 R.1.t) (.int .i64 R.1.g0) (.int .i64 R.1.g1) (.int .i64 R.1.nx) (.slice fa R.1.free.length fc) (.slice ea R.1.es.length ec) = V := ⟨_, rfl⟩
  have hsV : V.heap.size = w2.heap.size := by rw [← hV]; exact size_six _ _ _ _ _ _ _ _
  have hVk : ∀ k, k ≠ w.heap.size + 1 → V.heap[k]? = w2.heap[k]? := fun k hk => by rw [← hV]; exact heap_sixS hk
  have hV1 : V.heap[w.heap.size + 1]? = some (.cells (tapeC R.1.t R.1.g0 R.1.g1 R.1.nx (.slice fa R.1.free.length fc) (.slice ea R.1.es.length ec) (.slice none 0 0)) 29) := by rw [← hV]; exact six_tape hb12
  have hrV : RdAt p R.2 V := by rw [← hV]; exact rd_six h2 (by omega)
  have hkV : Keep w (some p) V := by rw [← hV]; exact keep_six (keep_from HBW.out k2) (by omega)
  have HCT := hid (readTicks_calls p R.2 V hrV)
  have HIN : Hid (InE V R.1 fa ea fc ec) := inE_blk hin2 (fun b o e _ => hVk b (by have := hff b o e; rw [HSW.out] at this; omega)) (fun b o e _ => hVk b (by have := hfe b o e; rw [HSW.out] at this; omega))
  have HFF := hid hff
  have HFE := hid hfe
  have HV1 := hid hV1
  have HV0 := hid ((hVk w.heap.size (by omega)).trans hb02)
  have HKV := hid hkV
  have HVE := hid hV
  clear HC hin2 h2 k2 hff hfe hb12 hb02 hV1 hrV hkV hVk hV hW
  go_upto_region 3 with fail
  have hve := HVE.out
  unfold sixS at hve
  rw [hve]
  clear hve HVE x0 x1 x2 x3 x4 x5 x6 xf
  go_wp2_with fail
  refine HCT.out.mono ?_
  rintro e w4 ⟨v, rfl, hT4, h4, k4⟩
  obtain ⟨ta, tc, rfl, htl, htk, _, hfr⟩ := hT4.tks
  have hsV2 : w.heap.size + 2 ≤ V.heap.size := by have := HSW.out; omega
  have hb14 := (k4.2 (w.heap.size + 1) (by omega) (fun e => by cases e; omega)).trans HV1.out
  have hb04 := (k4.2 w.heap.size (by omega) (fun e => by cases e; omega)).trans HV0.out
  have hs4 := k4.1.size
  obtain ⟨Q, hQ⟩ : ∃ Q, Rd.tape 7 R.2 = Q := ⟨_, rfl⟩
  rw [hQ] at hT4 h4 htl htk
  simp only [hQ]
  have HQ := hid hQ
  have y6 := (tape_cellsS hb14).2.2.2.2.2.2
  have yf := fun j => frozen_of_row w4 (w.heap.size + 1) j _ _ hb14
  obtain ⟨U, hU⟩ : ∃ U, w4.setCell ⟨w.heap.size + 1, 6, none⟩ (.slice ta Q.1.length tc) = U := ⟨_, rfl⟩
  have hsU : U.heap.size = w4.heap.size := by rw [← hU]; exact World.size_setCell _ _ _
  have hUk : ∀ k, k ≠ w.heap.size + 1 → U.heap[k]? = w4.heap[k]? := fun k hk => by rw [← hU]; exact heap_setCell_other w4 ⟨w.heap.size + 1, 6, none⟩ k _ hk
  have hU1 : U.heap[w.heap.size + 1]? = some (.cells (tapeC R.1.t R.1.g0 R.1.g1 R.1.nx (.slice fa R.1.free.length fc) (.slice ea R.1.es.length ec) (.slice ta Q.1.length tc)) 29) := by rw [← hU]; exact heap_setCell_same w4 (w.heap.size + 1) 6 _ _ _ hb14
  have hU0 := (hUk w.heap.size (by omega)).trans hb04
  have hrU : RdAt p Q.2 U := by rw [← hU]; exact rd_off h4 (by omega)
  have hkU : Keep w (some p) U := by rw [← hU]; exact keep_off (keep_trans HKV.out k4) (by omega)
  have hinU : InE U R.1 fa ea fc ec := inE_blk HIN.out
    (fun b o e hlt => by have hb := HFF.out b o e; rw [HSW.out] at hb; exact (hUk b (by omega)).trans (k4.2 b hlt (fun e => by cases e; omega)))
    (fun b o e hlt => by have hb := HFE.out b o e; rw [HSW.out] at hb; exact (hUk b (by omega)).trans (k4.2 b hlt (fun e => by cases e; omega)))
  have hTU : TksR V.heap.size U (.slice ta Q.1.length tc) Q.1 := hT4.same (by omega) (fun k hk _ => hUk k (by omega))
  have HUE := hid hU
  have HrU := hid hrU
  have HkU := hid hkU
  have HinU := hid hinU
  have HTU := hid hTU
  have HU0 := hid hU0
  have HU1 := hid hU1
  have HTL := hid htl
  clear hT4 h4 k4 htk hfr hb14 hb04 hUk hU1 hU0 hrU hkU hinU hTU hU HIN HCT HV1 HV0 HKV hQ htl
  go_upto_region 4 with fail
  rw [HUE.out]
  clear HUE y6 yf
  obtain ⟨x0, x1, x2, x3, x4, x5, x6⟩ := tape_cellsS HU1.out
  obtain ⟨q0, q1, q2, q3, q4, q5, q6⟩ := tape_cellsS HU0.out
  have qf := fun j => frozen_of_row U w.heap.size j _ _ HU0.out
  go_wp2
  refine bodyPost_ret (v := tapeV R.1.t R.1.g0 R.1.g1 R.1.nx (.slice fa R.1.free.length fc) (.slice ea R.1.es.length ec) (.slice ta Q.1.length tc)) (by simp [results, Tryz.results40, go_sem, q0, q1, q2, q3, q4, q5, q6]) rfl ?_
  show TapeRP p r w _ (set7 U w.heap.size (.int .i64 R.1.t) (.int .i64 R.1.g0) (.int .i64 R.1.g1) (.int .i64 R.1.nx) (.slice fa R.1.free.length fc) (.slice ea R.1.es.length ec) (.slice ta Q.1.length tc))
  unfold TapeRP
  rw [HR.out, HQ.out]
  have hT7 : TksR V.heap.size (set7 U w.heap.size (.int .i64 R.1.t) (.int .i64 R.1.g0) (.int .i64 R.1.g1) (.int .i64 R.1.nx) (.slice fa R.1.free.length fc) (.slice ea R.1.es.length ec) (.slice ta Q.1.length tc)) (.slice ta Q.1.length tc) Q.1 := HTU.out.same (by rw [size_seven]; exact Nat.le_refl _) (fun k hk _ => heap_seven (by omega))
  obtain ⟨ta', tc', e1, _, htk, _, _⟩ := hT7.tks
  cases e1
  exact ⟨fa, ea, ta, fc, ec, tc, rfl, inE_blk HinU.out (fun b o e _ => heap_seven (by have := HFF.out b o e; rw [HSW.out] at this; omega)) (fun b o e _ => heap_seven (by have := HFE.out b o e; rw [HSW.out] at this; omega)), htk, HTL.out, rd_seven HrU.out (by omega), keep_seven HkU.out (Nat.le_refl _), frsh_mono HFF.out (by rw [HSW.out]; omega), frsh_mono HFE.out (by rw [HSW.out]; omega), tksR_base hT7 (by omega)⟩
end Go.Proofs.YtcbalhicaipmlaaGreat
namespace Go.Proofs.YtcbalhicaipmlaaGreat
open Go.RowKit
def ckTape (s : St) (ls : List (List (List Int))) : Nat := ckT 7 (checkE s.t s.g0 s.g1 s.nx s.free s.es) s.t ls
end Go.Proofs.YtcbalhicaipmlaaGreat
