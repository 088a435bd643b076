/- Package snap: a tape is read. -/
import Derived.Test.YtcbalhicaipmlaaGreatSRefQ
import Derived.Test.YtcbalhicaipmlaaGreatSSnM
import Derived.Test.YtcbalhicaipmlaaGreatSSnN
import Derived.Test.YtcbalhicaipmlaaGreatSSnU
import Derived.Test.YtcbalhicaipmlaaGreatSSnB
import Derived.Test.YtcbalhicaipmlaaGreatSWire6
import Derived.Test.YtcbalhicaipmlaaGreatSCkA
import Derived.Test.YtcbalhicaipmlaaGreatSSnW
namespace Go.Proofs.YtcbalhicaipmlaaGreat
open Go.RowKit
theorem own_monoS {w : World} {base base' : Nat} {e : TypeId} {size : Nat} {v : Value} {n : Nat} {xs : List Value} (h : w.ownsRow base e size v n xs) (hb : base' ≤ base) : w.ownsRow base' e size v n xs := by
  refine ⟨h.1, ?_⟩
  rcases h.2 with hn | ⟨g, cap, cur, rfl, hbg, rest⟩
  · exact .inl hn
  · exact .inr ⟨g, cap, cur, rfl, by omega, rest⟩
theorem tape_cellsS {w : World} {b : Nat} {a0 a1 a2 a3 a4 a5 a6 : Value} (h : w.heap[b]? = some (.cells #[a0, a1, a2, a3, a4, a5, a6] 29)) :
    w.cell? ⟨b, 0, none⟩ = some a0 ∧ w.cell? ⟨b, 1, none⟩ = some a1 ∧ w.cell? ⟨b, 2, none⟩ = some a2 ∧ w.cell? ⟨b, 3, none⟩ = some a3 ∧ w.cell? ⟨b, 4, none⟩ = some a4 ∧ w.cell? ⟨b, 5, none⟩ = some a5 ∧ w.cell? ⟨b, 6, none⟩ = some a6 :=
  ⟨cell_of_row w b 0 _ _ _ h, cell_of_row w b 1 _ _ _ h, cell_of_row w b 2 _ _ _ h, cell_of_row w b 3 _ _ _ h, cell_of_row w b 4 _ _ _ h, cell_of_row w b 5 _ _ _ h, cell_of_row w b 6 _ _ _ h⟩
def sixS (w : World) (b : Nat) (a0 a1 a2 a3 a4 a5 : Value) : World := (((((w.setCell ⟨b, 0, none⟩ a0).setCell ⟨b, 1, none⟩ a1).setCell ⟨b, 2, none⟩ a2).setCell ⟨b, 3, none⟩ a3).setCell ⟨b, 4, none⟩ a4).setCell ⟨b, 5, none⟩ a5
theorem heap_sixS {w : World} {b k : Nat} {a0 a1 a2 a3 a4 a5 : Value} (h : k ≠ b) : (sixS w b a0 a1 a2 a3 a4 a5).heap[k]? = w.heap[k]? :=
  (heap_setCell_other _ ⟨b, 5, none⟩ k _ h).trans ((heap_setCell_other _ ⟨b, 4, none⟩ k _ h).trans ((heap_setCell_other _ ⟨b, 3, none⟩ k _ h).trans ((heap_setCell_other _ ⟨b, 2, none⟩ k _ h).trans ((heap_setCell_other _ ⟨b, 1, none⟩ k _ h).trans (heap_setCell_other _ ⟨b, 0, none⟩ k _ h)))))
def TapeRP (p : Nat) (r : Rd) (w : World) (e : Ending) (w' : World) : Prop :=
  ∃ fa ea ta fc ec tc, e = .returned (tapeV r.elder.1.t r.elder.1.g0 r.elder.1.g1 r.elder.1.nx (.slice fa r.elder.1.free.length fc) (.slice ea r.elder.1.es.length ec) (.slice ta (Rd.tape 7 r.elder.2).1.length tc)) ∧ InE w' r.elder.1 fa ea fc ec ∧ Tks w' ta (Rd.tape 7 r.elder.2).1 ∧ (Rd.tape 7 r.elder.2).1.length ≤ tc ∧ RdAt p (Rd.tape 7 r.elder.2).2 w' ∧ Keep w (some p) w' ∧ Frsh w.heap.size fa ∧ Frsh w.heap.size ea ∧ TksR w.heap.size w' (.slice ta (Rd.tape 7 r.elder.2).1.length tc) (Rd.tape 7 r.elder.2).1
abbrev zero7 : Array Value := tapeC 0 0 0 0 (.slice none 0 0) (.slice none 0 0) (.slice none 0 0)
theorem recs_blkL {w w' : World} {a : Option Addr} {k : Nat} {rs : List (List Int)} (hk : 0 < k) (h : Recs w a k rs) (hb : ∀ b o, a = some ⟨b, o, none⟩ → b < w.heap.size → w'.heap[b]? = w.heap[b]?) : Recs w' a k rs := by
  by_cases h0 : rs = []
  · exact Or.inl h0
  · rcases h with h | ⟨b, o, e, hc⟩
    · exact Or.inl h
    · exact recs_blk (Or.inr ⟨b, o, e, hc⟩) (fun b' o' e' => hb b' o' e' (by
        rw [e] at e'
        cases e'
        exact World.block_lt_of_cell? w _ (hc 0 (List.length_pos_iff.2 h0) 0 hk)))
theorem nums_blkL {w w' : World} {a : Option Addr} {zs : List Int} (h : Nums w a zs) (hb : ∀ b o, a = some ⟨b, o, none⟩ → b < w.heap.size → w'.heap[b]? = w.heap[b]?) : Nums w' a zs := by
  by_cases h0 : zs = []
  · exact Or.inl h0
  · rcases h with h | ⟨b, o, e, hc⟩
    · exact Or.inl h
    · exact nums_blk (Or.inr ⟨b, o, e, hc⟩) (fun b' o' e' => hb b' o' e' (by
        rw [e] at e'
        cases e'
        exact World.block_lt_of_cell? w _ (hc 0 (List.length_pos_iff.2 h0))))
theorem inE_blk {w w' : World} {s : St} {fa ea : Option Addr} {fc ec : Nat} (h : InE w s fa ea fc ec) (hf : ∀ b o, fa = some ⟨b, o, none⟩ → b < w.heap.size → w'.heap[b]? = w.heap[b]?) (he : ∀ b o, ea = some ⟨b, o, none⟩ → b < w.heap.size → w'.heap[b]? = w.heap[b]?) : InE w' s fa ea fc ec :=
  ⟨h.fn, h.en, h.cap, recs_blkL (by omega) h.rows he, nums_blkL h.nums hf, h.wf, h.born⟩
theorem tksR_base {B B' : Nat} {w : World} {v : Value} {ls : List (List (List Int))} (h : TksR B w v ls) (hB : B' ≤ B) : TksR B' w v ls := by
  obtain ⟨vs, hl, hr, hi⟩ := h
  refine ⟨vs, hl, own_monoS hr hB, fun i hil => ?_⟩
  obtain ⟨la, lc, h1, h2, h3⟩ := hi i hil
  refine ⟨la, lc, h1, h2, ?_⟩
  rcases h3 with h3 | ⟨b, e, hb, hw, hv⟩
  · exact Or.inl h3
  · exact Or.inr ⟨b, e, by omega, hw, hv⟩
def set7 (w : World) (b : Nat) (a0 a1 a2 a3 a4 a5 a6 : Value) : World := ((((((w.setCell ⟨b, 0, none⟩ a0).setCell ⟨b, 1, none⟩ a1).setCell ⟨b, 2, none⟩ a2).setCell ⟨b, 3, none⟩ a3).setCell ⟨b, 4, none⟩ a4).setCell ⟨b, 5, none⟩ a5).setCell ⟨b, 6, none⟩ a6
theorem heap_seven {w : World} {b k : Nat} {a0 a1 a2 a3 a4 a5 a6 : Value} (h : k ≠ b) : (set7 w b a0 a1 a2 a3 a4 a5 a6).heap[k]? = w.heap[k]? := (heap_setCell_other _ ⟨b, 6, none⟩ k _ h).trans (heap_sixS h)
theorem size_six (w : World) (b : Nat) (a0 a1 a2 a3 a4 a5 : Value) : (sixS w b a0 a1 a2 a3 a4 a5).heap.size = w.heap.size := by unfold sixS; simp only [World.size_setCell]
theorem size_seven (w : World) (b : Nat) (a0 a1 a2 a3 a4 a5 a6 : Value) : (set7 w b a0 a1 a2 a3 a4 a5 a6).heap.size = w.heap.size := by unfold set7; simp only [World.size_setCell]
theorem six_tape {w : World} {b : Nat} {a0 a1 a2 a3 a4 a5 a6 c0 c1 c2 c3 c4 c5 : Value} (h : w.heap[b]? = some (.cells #[a0, a1, a2, a3, a4, a5, a6] 29)) : (sixS w b c0 c1 c2 c3 c4 c5).heap[b]? = some (.cells #[c0, c1, c2, c3, c4, c5, a6] 29) :=
  heap_setCell_same _ b 5 _ _ c5 (heap_setCell_same _ b 4 _ _ c4 (heap_setCell_same _ b 3 _ _ c3 (heap_setCell_same _ b 2 _ _ c2 (heap_setCell_same _ b 1 _ _ c1 (heap_setCell_same w b 0 _ _ c0 h)))))
theorem keep_six {W w : World} {ob : Option Nat} {b : Nat} {a0 a1 a2 a3 a4 a5 : Value} (h : Keep W ob w) (hb : W.heap.size ≤ b) : Keep W ob (sixS w b a0 a1 a2 a3 a4 a5) := keep_off (keep_off (keep_off (keep_off (keep_off (keep_off h hb) hb) hb) hb) hb) hb
theorem keep_seven {W w : World} {ob : Option Nat} {b : Nat} {a0 a1 a2 a3 a4 a5 a6 : Value} (h : Keep W ob w) (hb : W.heap.size ≤ b) : Keep W ob (set7 w b a0 a1 a2 a3 a4 a5 a6) := keep_off (keep_six h hb) hb
theorem rd_six {w : World} {p b : Nat} {r : Rd} {a0 a1 a2 a3 a4 a5 : Value} (h : RdAt p r w) (hn : p ≠ b) : RdAt p r (sixS w b a0 a1 a2 a3 a4 a5) := rd_off (rd_off (rd_off (rd_off (rd_off (rd_off h hn) hn) hn) hn) hn) hn
theorem rd_seven {w : World} {p b : Nat} {r : Rd} {a0 a1 a2 a3 a4 a5 a6 : Value} (h : RdAt p r w) (hn : p ≠ b) : RdAt p r (set7 w b a0 a1 a2 a3 a4 a5 a6) := rd_off (rd_six h hn) hn
set_option maxHeartbeats 8000000 in
set_option maxRecDepth 100000 in
theorem readTape_calls (p : Nat) (r : Rd) (w : World) (h : RdAt p r w) :
    Calls Tryz.prog 40 #[.pointer (some ⟨p, 0, none⟩)] w (TapeRP p r w) := by
  obtain ⟨W, hW⟩ : ∃ W, (w.alloc (.cells zero7 29)).alloc (.cells zero7 29) = W := ⟨_, rfl⟩
  have hbW : Below w.heap.size w W := by rw [← hW]; exact ((Below.refl _ w).alloc (Nat.le_refl _) _).alloc (by simp [go_sem]) _
  have hsW : W.heap.size = w.heap.size + 2 := by rw [← hW]; simp [go_sem]
  have hh0 : W.heap[w.heap.size]? = some (.cells zero7 29) := by
    rw [← hW, heap_alloc_old _ _ (by simp [go_sem])]
    exact heap_alloc_new w _
  have hh1 : W.heap[w.heap.size + 1]? = some (.cells zero7 29) := by
    have e : w.heap.size + 1 = (w.alloc (.cells zero7 29)).heap.size := by simp [go_sem]
    rw [← hW, e]
    exact heap_alloc_new _ _
  have hp := h.lt
  have HC := hid (readElder_calls p r W (h.below hbW))
  have HBW := hid hbW
  have HSW := hid hsW
  have H0 := hid hh0
  have H1 := hid hh1
  obtain ⟨R, hR⟩ : ∃ R, r.elder = R := ⟨_, rfl⟩
  have HR := hid hR
  rw [hR] at HC
  clear h hbW hsW hh0 hh1 hR
  go_enter Tryz.func40, Tryz.ntmps40
  go_wp2_with fail
  refine HC.out.mono ?_
  rintro e w2 ⟨fa, ea, fc, ec, rfl, hin2, h2, k2, hff, hfe⟩
  have hb12 := (k2.2 (w.heap.size + 1) (by rw [HSW.out]; omega) (fun e => by cases e; omega)).trans H1.out
  have hb02 := (k2.2 w.heap.size (by rw [HSW.out]; omega) (fun e => by cases e; omega)).trans H0.out
  have hs2 := k2.1.size
  obtain ⟨x0, x1, x2, x3, x4, x5, x6⟩ := tape_cellsS hb12
  have xf := fun j => frozen_of_row w2 (w.heap.size + 1) j _ _ hb12
  obtain ⟨V, hV⟩ : ∃ V, sixS w2 (w.heap.size + 1) (.int .i64 R.1.t) (.int .i64 R.1.g0) (.int .i64 R.1.g1) (.int .i64 R.1.nx) (.slice fa R.1.free.length fc) (.slice ea R.1.es.length ec) = V := ⟨_, rfl⟩
  have hsV : V.heap.size = w2.heap.size := by rw [← hV]; exact size_six _ _ _ _ _ _ _ _
  have hVk : ∀ k, k ≠ w.heap.size + 1 → V.heap[k]? = w2.heap[k]? := fun k hk => by rw [← hV]; exact heap_sixS hk
  have hV1 : V.heap[w.heap.size + 1]? = some (.cells (tapeC R.1.t R.1.g0 R.1.g1 R.1.nx (.slice fa R.1.free.length fc) (.slice ea R.1.es.length ec) (.slice none 0 0)) 29) := by rw [← hV]; exact six_tape hb12
  have hrV : RdAt p R.2 V := by rw [← hV]; exact rd_six h2 (by omega)
  have hkV : Keep w (some p) V := by rw [← hV]; exact keep_six (keep_from HBW.out k2) (by omega)
  have HCT := hid (readTicks_calls p R.2 V hrV)
  have HIN : Hid (InE V R.1 fa ea fc ec) := inE_blk hin2 (fun b o e _ => hVk b (by have := hff b o e; rw [HSW.out] at this; omega)) (fun b o e _ => hVk b (by have := hfe b o e; rw [HSW.out] at this; omega))
  have HFF := hid hff
  have HFE := hid hfe
  have HV1 := hid hV1
  have HV0 := hid ((hVk w.heap.size (by omega)).trans hb02)
  have HKV := hid hkV
  have HVE := hid hV
  clear HC hin2 h2 k2 hff hfe hb12 hb02 hV1 hrV hkV hVk hV hW
  go_upto_region 3 with fail
  have hve := HVE.out
  unfold sixS at hve
  rw [hve]
  clear hve HVE x0 x1 x2 x3 x4 x5 x6 xf
  go_wp2_with fail
  refine HCT.out.mono ?_
  rintro e w4 ⟨v, rfl, hT4, h4, k4⟩
  obtain ⟨ta, tc, rfl, htl, htk, _, hfr⟩ := hT4.tks
  have hsV2 : w.heap.size + 2 ≤ V.heap.size := by have := HSW.out; omega
  have hb14 := (k4.2 (w.heap.size + 1) (by omega) (fun e => by cases e; omega)).trans HV1.out
  have hb04 := (k4.2 w.heap.size (by omega) (fun e => by cases e; omega)).trans HV0.out
  have hs4 := k4.1.size
  obtain ⟨Q, hQ⟩ : ∃ Q, Rd.tape 7 R.2 = Q := ⟨_, rfl⟩
  rw [hQ] at hT4 h4 htl htk
  simp only [hQ]
  have HQ := hid hQ
  have y6 := (tape_cellsS hb14).2.2.2.2.2.2
  have yf := fun j => frozen_of_row w4 (w.heap.size + 1) j _ _ hb14
  obtain ⟨U, hU⟩ : ∃ U, w4.setCell ⟨w.heap.size + 1, 6, none⟩ (.slice ta Q.1.length tc) = U := ⟨_, rfl⟩
  have hsU : U.heap.size = w4.heap.size := by rw [← hU]; exact World.size_setCell _ _ _
  have hUk : ∀ k, k ≠ w.heap.size + 1 → U.heap[k]? = w4.heap[k]? := fun k hk => by rw [← hU]; exact heap_setCell_other w4 ⟨w.heap.size + 1, 6, none⟩ k _ hk
  have hU1 : U.heap[w.heap.size + 1]? = some (.cells (tapeC R.1.t R.1.g0 R.1.g1 R.1.nx (.slice fa R.1.free.length fc) (.slice ea R.1.es.length ec) (.slice ta Q.1.length tc)) 29) := by rw [← hU]; exact heap_setCell_same w4 (w.heap.size + 1) 6 _ _ _ hb14
  have hU0 := (hUk w.heap.size (by omega)).trans hb04
  have hrU : RdAt p Q.2 U := by rw [← hU]; exact rd_off h4 (by omega)
  have hkU : Keep w (some p) U := by rw [← hU]; exact keep_off (keep_trans HKV.out k4) (by omega)
  have hinU : InE U R.1 fa ea fc ec := inE_blk HIN.out
    (fun b o e hlt => by have hb := HFF.out b o e; rw [HSW.out] at hb; exact (hUk b (by omega)).trans (k4.2 b hlt (fun e => by cases e; omega)))
    (fun b o e hlt => by have hb := HFE.out b o e; rw [HSW.out] at hb; exact (hUk b (by omega)).trans (k4.2 b hlt (fun e => by cases e; omega)))
  have hTU : TksR V.heap.size U (.slice ta Q.1.length tc) Q.1 := hT4.same (by omega) (fun k hk _ => hUk k (by omega))
  have HUE := hid hU
  have HrU := hid hrU
  have HkU := hid hkU
  have HinU := hid hinU
  have HTU := hid hTU
  have HU0 := hid hU0
  have HU1 := hid hU1
  have HTL := hid htl
  clear hT4 h4 k4 htk hfr hb14 hb04 hUk hU1 hU0 hrU hkU hinU hTU hU HIN HCT HV1 HV0 HKV hQ htl
  go_upto_region 4 with fail
  rw [HUE.out]
  clear HUE y6 yf
  obtain ⟨x0, x1, x2, x3, x4, x5, x6⟩ := tape_cellsS HU1.out
  obtain ⟨q0, q1, q2, q3, q4, q5, q6⟩ := tape_cellsS HU0.out
  have qf := fun j => frozen_of_row U w.heap.size j _ _ HU0.out
  go_wp2
  refine bodyPost_ret (v := tapeV R.1.t R.1.g0 R.1.g1 R.1.nx (.slice fa R.1.free.length fc) (.slice ea R.1.es.length ec) (.slice ta Q.1.length tc)) (by simp [results, Tryz.results40, go_sem, q0, q1, q2, q3, q4, q5, q6]) rfl ?_
  show TapeRP p r w _ (set7 U w.heap.size (.int .i64 R.1.t) (.int .i64 R.1.g0) (.int .i64 R.1.g1) (.int .i64 R.1.nx) (.slice fa R.1.free.length fc) (.slice ea R.1.es.length ec) (.slice ta Q.1.length tc))
  unfold TapeRP
  rw [HR.out, HQ.out]
  have hT7 : TksR V.heap.size (set7 U w.heap.size (.int .i64 R.1.t) (.int .i64 R.1.g0) (.int .i64 R.1.g1) (.int .i64 R.1.nx) (.slice fa R.1.free.length fc) (.slice ea R.1.es.length ec) (.slice ta Q.1.length tc)) (.slice ta Q.1.length tc) Q.1 := HTU.out.same (by rw [size_seven]; exact Nat.le_refl _) (fun k hk _ => heap_seven (by omega))
  obtain ⟨ta', tc', e1, _, htk, _, _⟩ := hT7.tks
  cases e1
  exact ⟨fa, ea, ta, fc, ec, tc, rfl, inE_blk HinU.out (fun b o e _ => heap_seven (by have := HFF.out b o e; rw [HSW.out] at this; omega)) (fun b o e _ => heap_seven (by have := HFE.out b o e; rw [HSW.out] at this; omega)), htk, HTL.out, rd_seven HrU.out (by omega), keep_seven HkU.out (Nat.le_refl _), frsh_mono HFF.out (by rw [HSW.out]; omega), frsh_mono HFE.out (by rw [HSW.out]; omega), tksR_base hT7 (by omega)⟩
end Go.Proofs.YtcbalhicaipmlaaGreat
namespace Go.Proofs.YtcbalhicaipmlaaGreat
open Go.RowKit
theorem TksB.mono {B B' : Nat} {w w' : World} {ta : Option Addr} {ls : List (List (List Int))} (h : TksB B w ta ls) (hb : Below B w w') (hB : B ≤ B') : TksB B' w' ta ls := by
  rcases h with h | ⟨c, o, e, hc⟩
  · exact Or.inl h
  · refine Or.inr ⟨c, o, e, fun i hi => ?_⟩
    obtain ⟨la, lc, h1⟩ := hc i hi
    exact ⟨la, lc, fun w2 h2 => h1 w2 (hb.trans (h2.mono hB))⟩
theorem elderN_len9 {s : St} (h : SmlS 10 s) : (numsL (elderN s)).length ≤ 4500 := by
  have h1 := elderN_length h
  have h2 := numsL_length (elderN s)
  omega
set_option maxHeartbeats 4000000 in
set_option maxRecDepth 100000 in
theorem writeTape_calls (B b : Nat) (l : List UInt8) (s : St) (fa ea ta : Option Addr) (fc ec tc : Nat) (ls : List (List (List Int))) (w : World) (h : IsW B b l w) (hin : ∀ w', Below B w w' → InE w' s fa ea fc ec) (ht : TksB B w ta ls) (hm : SmlS 10 s) (hs : ∀ x ∈ ls, ∀ u ∈ x, ∀ j, j < 7 → Sml (fld u j)) (h60 : ls.length ≤ 60) (h8 : ∀ x ∈ ls, x.length ≤ 8) (hl : l.length ≤ 100000) (hB : B ≤ w.heap.size) :
    Calls Tryz.prog 33 #[.pointer (some ⟨b, 0, none⟩), tapeV s.t s.g0 s.g1 s.nx (.slice fa s.free.length fc) (.slice ea s.es.length ec) (.slice ta ls.length tc)] w fun e w' => e = .returned (.tuple #[]) ∧ IsW B b (l ++ numsL (tapeN s ls)) w' ∧ Below B w w' ∧ KeptW b w w' := by
  obtain ⟨W, hW⟩ : ∃ W, w.alloc (.cells (tapeC s.t s.g0 s.g1 s.nx (.slice fa s.free.length fc) (.slice ea s.es.length ec) (.slice ta ls.length tc)) 29) = W := ⟨_, rfl⟩
  have hbW : Below w.heap.size w W := by rw [← hW]; exact (Below.refl _ w).alloc (Nat.le_refl _) _
  have hsW : W.heap.size = w.heap.size + 1 := by rw [← hW]; simp [go_sem]
  have hh0 : W.heap[w.heap.size]? = some (.cells (tapeC s.t s.g0 s.g1 s.nx (.slice fa s.free.length fc) (.slice ea s.es.length ec) (.slice ta ls.length tc)) 29) := by rw [← hW]; exact heap_alloc_new _ _
  have hbB : b < w.heap.size := h.lt
  have hBW : Below B w W := hbW.mono hB
  obtain ⟨x0, x1, x2, x3, x4, x5, x6⟩ := tape_cellsS hh0
  have HWE := hid (writeElder_calls B b l s fa ea fc ec W (h.below hbW) (fun w' hx => hin w' (hBW.trans hx)) hm hl (by omega))
  have HKW : Hid (KeptW b w W) := kept_below (Lib.OthersKept.refl _ _ w) hbW
  have HBW := hid hBW
  have HBOX : Hid (∀ wx, KeptW b W wx → wx.heap[w.heap.size]? = some (.cells (tapeC s.t s.g0 s.g1 s.nx (.slice fa s.free.length fc) (.slice ea s.es.length ec) (.slice ta ls.length tc)) 29)) := fun wx hk => kept_block hk hh0 (by omega) (by decide)
  have HT := hid ht
  have HS := hid hs
  have H8 := hid h8
  have hl9 := elderN_len9 hm
  clear h hin ht hm hs h8 hbW hsW hh0 hBW
  go_enter Tryz.func33, Tryz.ntmps33
  go_wp2_with fail
  refine HWE.out.mono ?_
  rintro e w2 ⟨rfl, hw2, hb2, hk2⟩
  have hb02 := HBOX.out w2 hk2
  have y6 := (tape_cellsS hb02).2.2.2.2.2.2
  have hB2 : Below B w w2 := HBW.out.trans hb2
  have HWT := hid (writeTicks_calls B b (l ++ numsL (elderN s)) ls ta tc w2 hw2 (HT.out.mono hB2 (Nat.le_refl _)) HS.out h60 H8.out (by rw [List.length_append]; omega) (by have := hB2.size; omega))
  have HB2 := hid hB2
  have HK2 : Hid (KeptW b w w2) := HKW.out.trans hk2
  clear x0 x1 x2 x3 x4 x5 x6 hw2 hb2 hk2 hb02 hB2 HWE hW
  go_wp2_with fail
  refine HWT.out.mono ?_
  rintro e w3 ⟨rfl, hw3, hb3, hk3⟩
  have HW3 : Hid (IsW B b (l ++ numsL (tapeN s ls)) w3) := by
    show IsW _ _ _ _
    unfold tapeN
    rw [numsL_append, ← List.append_assoc]
    exact hw3
  have HB3 : Hid (Below B w w3) := HB2.out.trans hb3
  have HK3 : Hid (KeptW b w w3) := HK2.out.trans hk3
  clear hw3 hb3 hk3 HWT y6
  go_wp2
  go_end0
  exact ⟨rfl, HW3.out, HB3.out, HK3.out⟩
def ckTape (s : St) (ls : List (List (List Int))) : Nat := ckT 7 (checkE s.t s.g0 s.g1 s.nx s.free s.es) s.t ls
def byT (s : St) (ls : List (List (List Int))) : List UInt8 := if ckTape s ls = 0 then frameL 84 (numsL (tapeN s ls)) else []
theorem tapeN_length {s : St} {ls : List (List (List Int))} (h : SmlS 10 s) (h60 : ls.length ≤ 60) (h8 : ∀ x ∈ ls, x.length ≤ 8) : (tapeN s ls).length ≤ 4000 := by
  have h1 := elderN_length h
  have h2 := ticks_len (k := 7) ls h8
  unfold tapeN ticksN
  rw [List.length_append, List.length_cons]
  omega
set_option maxHeartbeats 4000000 in
set_option maxRecDepth 100000 in
theorem bytesT0_calls (s : St) (fa ea ta : Option Addr) (fc ec tc : Nat) (ls : List (List (List Int))) (w : World) (h : InE w s fa ea fc ec) (ht : Tks w ta ls) (hn : ls.length ≤ 1000) (hs : ∀ x ∈ ls, ∀ u ∈ x, ∀ j, j < 7 → fld u j < 9223372036854775808) :
    Calls Tryz.prog 32 #[.int .u8 84, tapeV s.t s.g0 s.g1 s.nx (.slice fa s.free.length fc) (.slice ea s.es.length ec) (.slice ta ls.length tc), funV 11, funV 33] w fun e w' => e = .returned (.tuple #[.string ⟨(byT s ls).toArray⟩, errV (ckTape s ls)]) ∧ Below w.heap.size w w' := by
  obtain ⟨W, hW⟩ : ∃ W, w.alloc (.cells (tapeC s.t s.g0 s.g1 s.nx (.slice fa s.free.length fc) (.slice ea s.es.length ec) (.slice ta ls.length tc)) 29) = W := ⟨_, rfl⟩
  have hbW : Below w.heap.size w W := by rw [← hW]; exact (Below.refl _ w).alloc (Nat.le_refl _) _
  have hsW : W.heap.size = w.heap.size + 1 := by rw [← hW]; simp [go_sem]
  have hh0 : W.heap[w.heap.size]? = some (.cells (tapeC s.t s.g0 s.g1 s.nx (.slice fa s.free.length fc) (.slice ea s.es.length ec) (.slice ta ls.length tc)) 29) := by rw [← hW]; exact heap_alloc_new _ _
  have hin := h.below hbW
  have htW := ht.below hbW
  obtain ⟨x0, x1, x2, x3, x4, x5, x6⟩ := tape_cellsS hh0
  have HC : Hid (Calls Tryz.prog 11 #[tapeV s.t s.g0 s.g1 s.nx (.slice fa s.free.length fc) (.slice ea s.es.length ec) (.slice ta ls.length tc)] W fun e w' => e = .returned (errV (ckTape s ls)) ∧ Below W.heap.size W w') := checkTape_calls s fa ea ta fc ec tc ls W hin hn htW
  have HBW := hid hbW
  have HSW := hid hsW
  have H0 := hid hh0
  have HIN := hid hin
  have HTW := hid htW
  have hborn := h.born
  by_cases h0 : ckTape s ls = 0
  case neg =>
    have HY : Hid (byT s ls = []) := if_neg h0
    obtain ⟨c, hc⟩ : ∃ c, ckTape s ls = c := ⟨_, rfl⟩
    rw [hc] at h0 HC ⊢
    rw [errV_pos h0] at HC ⊢
    clear h hin htW ht hbW hsW hh0 hc h0
    go_enter Tryz.func32, Tryz.ntmps32
    go_wp2_with fail
    refine HC.out.mono ?_
    rintro e w2 ⟨rfl, hb2⟩
    have HF : Hid (Below w.heap.size w w2) := HBW.out.trans (hb2.mono (by rw [HSW.out]; omega))
    clear hb2 x0 x1 x2 x3 x4 x5 x6 hW HC
    go_wp2
    go_ret2
    rw [HY.out]
    exact ⟨rfl, HF.out⟩
  obtain ⟨hc0, h60, h8, hpos⟩ := ckT_zero h0
  have ht0 := (inv_of_check hc0).t0
  have HM := hid (smlE (inv_of_check hc0) hborn)
  have HS : Hid (∀ x ∈ ls, ∀ u ∈ x, ∀ j, j < 7 → Sml (fld u j)) := fun x hx u hu j hj => ⟨hpos x hx u hu j hj, hs x hx u hu j hj⟩
  have H8 := hid h8
  have h60' : ls.length ≤ 60 := by omega
  have HY : Hid (byT s ls = frameL 84 (numsL (tapeN s ls))) := if_pos h0
  rw [h0, errV_zero] at HC ⊢
  clear h hin htW ht hbW hsW hh0 h0 hs hc0 hpos h8 h60 ht0 hborn
  go_enter Tryz.func32, Tryz.ntmps32
  go_wp2_with fail
  refine HC.out.mono ?_
  rintro e w2 ⟨rfl, hb2⟩
  obtain ⟨X, hX⟩ : ∃ X, w2.alloc (.cells #[.pointer none, .slice none 0 0] 131) = X := ⟨_, rfl⟩
  have hbX : Below w2.heap.size w2 X := by rw [← hX]; exact (Below.refl _ _).alloc (Nat.le_refl _) _
  have hwX : IsW w2.heap.size w2.heap.size [] X := by rw [← hX]; exact Lib.fresh_isBuilder _ _ _
  have hh2 := (hb2.block w.heap.size (by rw [HSW.out]; omega)).trans H0.out
  have hhX := (hbX.block w.heap.size (Array.getElem?_eq_some_iff.1 hh2).1).trans hh2
  have hi2 := HIN.out.below hb2
  have ht2 := (HTW.out.below hb2).stay
  have HWR := hid (writeTape_calls w2.heap.size w2.heap.size [] s fa ea ta fc ec tc ls X hwX (fun w' hx => hi2.below (hbX.trans hx)) (ht2.mono hbX (Nat.le_refl _)) HM.out HS.out h60' H8.out (by simp) hbX.size)
  have hlen := tapeN_length HM.out h60' H8.out
  have HB2 := hid hb2
  have HBX := hid hbX
  clear x0 x1 x2 x3 x4 x5 x6
  obtain ⟨x0, x1, x2, x3, x4, x5, x6⟩ := tape_cellsS hhX
  clear hb2 hbX hwX hh2 hhX hi2 ht2 hW HC
  go_wp2_with fail
  refine HWR.out.mono ?_
  rintro e w3 ⟨rfl, hw3, hb3, _⟩
  have hne : numsL (tapeN s ls) ≠ [] := numsL_ne _ _
  rw [List.nil_append] at hw3
  have hnl := numsL_length (tapeN s ls)
  have HST := hid (builderString_calls w2.heap.size w2.heap.size (numsL (tapeN s ls)) w3 hw3 hne)
  have HB3 : Hid (Below w2.heap.size w2 w3) := HBX.out.trans hb3
  clear hw3 hb3 hne hX x0 x1 x2 x3 x4 x5 x6 HWR HBX
  go_wp2_with fail
  refine HST.out.mono ?_
  rintro e w4 ⟨rfl, hb4⟩
  have HFR := hid (frame_calls 84 (numsL (tapeN s ls)) (by omega) w4)
  have HB4 : Hid (Below w2.heap.size w2 w4) := HB3.out.trans hb4
  clear hb4 HST
  go_wp2_with fail
  refine HFR.out.mono ?_
  rintro e w5 ⟨rfl, hb5⟩
  have HF : Hid (Below w.heap.size w w5) := by
    have h2 : Below W.heap.size W w5 := (HB2.out.trans (HB4.out.mono HB2.out.size)).trans (hb5.mono (Nat.le_trans HB2.out.size HB4.out.size))
    exact HBW.out.trans (h2.mono (by rw [HSW.out]; omega))
  clear hb5 HFR
  go_wp2
  go_ret2
  rw [HY.out]
  exact ⟨rfl, HF.out⟩
set_option maxHeartbeats 4000000 in
set_option maxRecDepth 100000 in
theorem bytesT_calls (s : St) (fa ea ta : Option Addr) (fc ec tc : Nat) (ls : List (List (List Int))) (w : World) (h : InE w s fa ea fc ec) (ht : Tks w ta ls) (hn : ls.length ≤ 1000) (hs : ∀ x ∈ ls, ∀ u ∈ x, ∀ j, j < 7 → fld u j < 9223372036854775808) :
    Calls Tryz.prog 8 #[tapeV s.t s.g0 s.g1 s.nx (.slice fa s.free.length fc) (.slice ea s.es.length ec) (.slice ta ls.length tc)] w fun e w' => e = .returned (.tuple #[.string ⟨(byT s ls).toArray⟩, errV (ckTape s ls)]) ∧ Below w.heap.size w w' := by
  obtain ⟨W, hW⟩ : ∃ W, w.alloc (.cells (tapeC s.t s.g0 s.g1 s.nx (.slice fa s.free.length fc) (.slice ea s.es.length ec) (.slice ta ls.length tc)) 29) = W := ⟨_, rfl⟩
  have hbW : Below w.heap.size w W := by rw [← hW]; exact (Below.refl _ w).alloc (Nat.le_refl _) _
  have hh0 : W.heap[w.heap.size]? = some (.cells (tapeC s.t s.g0 s.g1 s.nx (.slice fa s.free.length fc) (.slice ea s.es.length ec) (.slice ta ls.length tc)) 29) := by rw [← hW]; exact heap_alloc_new _ _
  obtain ⟨x0, x1, x2, x3, x4, x5, x6⟩ := tape_cellsS hh0
  have HC := hid (bytesT0_calls s fa ea ta fc ec tc ls W (h.below hbW) (ht.below hbW) hn hs)
  have HBW := hid hbW
  generalize errV (ckTape s ls) = ev at HC ⊢
  clear h ht hs hbW hh0
  go_enter Tryz.func8, Tryz.ntmps8
  go_wp2_with fail
  refine HC.out.mono ?_
  rintro e w2 ⟨rfl, hb2⟩
  have HF : Hid (Below w.heap.size w w2) := HBW.out.trans (hb2.mono HBW.out.size)
  clear hb2 HC
  go_wp2
  go_ret2
  exact ⟨rfl, HF.out⟩
end Go.Proofs.YtcbalhicaipmlaaGreat
