/- The reference: a play of the elder game. -/
import Derived.Test.YtgiieepfhohmhaaPlyB
namespace Go.Proofs.Ytgiieepfhohmhaa
open Go.RowKit Go.Maps

theorem below_sixN {B b : Nat} {a w : World} {a0 a1 a2 a3 a4 a5 : Value} (h : Below B a w) (hb : B ≤ b) : Below B a ((((((w.setCell ⟨b, 0, none⟩ a0).setCell ⟨b, 1, none⟩ a1).setCell ⟨b, 2, none⟩ a2).setCell ⟨b, 3, none⟩ a3).setCell ⟨b, 4, none⟩ a4).setCell ⟨b, 5, none⟩ a5) := below_six h hb
theorem zero_box {wr w5 : World} {o : Obj} (hb : Below (wr.alloc o).drew.heap.size (wr.alloc o).drew w5) : w5.heap[wr.heap.size]? = some o := (hb.block wr.heap.size (by simp [go_sem])).trans (heap_alloc_new wr o)
section
variable (s : St) (fa ea ta : Option Addr) (fc ec tc : Nat) (ls : List (List (List Int))) (n : Int) (w : World)

set_option maxRecDepth 100000 in
set_option maxHeartbeats 8000000 in
theorem playR_bound (hn : n < 0 ∨ (ls.length : Int) < n) :
    Calls Try.prog 48 #[tapeV s.t s.g0 s.g1 s.nx (.slice fa s.free.length fc) (.slice ea s.es.length ec) (.slice ta ls.length tc), .int .i64 n] w (AnsP intV (1, zeroS) w) := by
  obtain ⟨W, hW⟩ : ∃ W, (w.alloc (.cells (tapeC s.t s.g0 s.g1 s.nx (.slice fa s.free.length fc) (.slice ea s.es.length ec) (.slice ta ls.length tc)) 64)).alloc (.cells (elC 0 0 0 0 (.slice none 0 0) (.slice none 0 0)) 60) = W := ⟨_, rfl⟩
  obtain ⟨hbW, hsW, hh0, hh1⟩ := tape_boxes hW
  obtain ⟨_, _, _, _, _, _, x6⟩ := tape_cells hh0
  obtain ⟨q0, q1, q2, q3, q4, q5⟩ := elder_cells hh1
  have f0 := fun j => frozen_of_row W (w.heap.size + 1) j _ _ hh1
  have HBW := hid hbW
  clear hbW hsW hh0 hh1
  have hw : n < 0 ∨ (¬ n < 0 ∧ (ls.length : Int) < n) := by omega
  clear hn
  rcases hw with h1 | ⟨h1, h2⟩
  all_goals
    go_enter Try.func48, Try.ntmps48
    go_wp2
    exact bodyPost_ret (v := .tuple #[zeroE, intV 1]) (by simp [results, Try.results48, go_sem, q0, q1, q2, q3, q4, q5, intV]) rfl (ansP_zero rfl (below_six (b := w.heap.size + 1) HBW.out (Nat.le_succ _)))

set_option maxRecDepth 100000 in
set_option maxHeartbeats 8000000 in
theorem playR_check (h : InE w s fa ea fc ec) (hne : s.es.length ≤ 1000) (hnf : s.free.length ≤ 1000) (h0 : 0 ≤ n) (hl : n ≤ (ls.length : Int)) (hc : checkE s.t s.g0 s.g1 s.nx s.free s.es ≠ 0) :
    Calls Try.prog 48 #[tapeV s.t s.g0 s.g1 s.nx (.slice fa s.free.length fc) (.slice ea s.es.length ec) (.slice ta ls.length tc), .int .i64 n] w (AnsP intV (checkE s.t s.g0 s.g1 s.nx s.free s.es, zeroS) w) := by
  obtain ⟨W, hW⟩ : ∃ W, (w.alloc (.cells (tapeC s.t s.g0 s.g1 s.nx (.slice fa s.free.length fc) (.slice ea s.es.length ec) (.slice ta ls.length tc)) 64)).alloc (.cells (elC 0 0 0 0 (.slice none 0 0) (.slice none 0 0)) 60) = W := ⟨_, rfl⟩
  obtain ⟨hbW, hsW, hh0, hh1⟩ := tape_boxes hW
  obtain ⟨x0, x1, x2, x3, x4, x5, x6⟩ := tape_cells hh0
  have hin := h.below hbW
  have HO := hid (ofElder_calls s.t s.g0 s.g1 s.nx s.free fa ea fc ec s.es W hne hnf hin.rows hin.nums h.fn)
  have HBW := hid hbW
  have HSW := hid hsW
  have H1 := hid hh1
  have HU := hid (st0_up h.born)
  have HF := hid (faultU s)
  have hm0 : 0 < checkE s.t s.g0 s.g1 s.nx s.free s.es := by omega
  generalize checkE s.t s.g0 s.g1 s.nx s.free s.es = m at HF hm0 ⊢
  have hmz : (0 : Int) < (m : Int) := by omega
  have z1 : ¬ n < 0 := by omega
  have z2 : ¬ (ls.length : Int) < n := by omega
  clear h hin hbW hsW hh0 hh1 hc h0 hl hm0
  go_enter Try.func48, Try.ntmps48
  go_wp2_with fail
  refine HO.out.mono ?_
  rintro e w1 ⟨p, rfl, hG1, hb1⟩
  rw [HU.out] at hG1
  have HC := hid (fault_calls W.heap.size p false (upS s) w1 hG1)
  rw [HF.out] at HC
  have HB1 := hid hb1
  clear HO hG1 hb1 x0 x1 x2 x3 x4 x5 x6 hW
  go_wp2_with fail
  refine HC.out.mono ?_
  rintro e w2 ⟨rfl, hb2⟩
  have hb12 : Below W.heap.size W w2 := HB1.out.trans (hb2.mono HB1.out.size)
  have hq := (hb12.block (w.heap.size + 1) (by rw [HSW.out]; omega)).trans H1.out
  obtain ⟨q0, q1, q2, q3, q4, q5⟩ := elder_cells hq
  have f0 := fun j => frozen_of_row w2 (w.heap.size + 1) j _ _ hq
  have HB2 : Hid (Below w.heap.size w w2) := HBW.out.trans (hb12.mono (by rw [HSW.out]; omega))
  clear HC hb2 hq hb12 HB1
  go_wp2
  exact bodyPost_ret (v := .tuple #[zeroE, .int .i64 m]) (by simp [results, Try.results48, go_sem, q0, q1, q2, q3, q4, q5]) rfl (ansP_zero rfl (below_six (b := w.heap.size + 1) HB2.out (Nat.le_succ _)))

set_option maxRecDepth 100000 in
set_option maxHeartbeats 8000000 in
theorem playR_good (h : InE w s fa ea fc ec) (ht : Tks w ta ls) (hls : ls.length ≤ 1000) (m : Nat) (hm : m ≤ ls.length) (hc : checkE s.t s.g0 s.g1 s.nx s.free s.es = 0) :
    Calls Try.prog 48 #[tapeV s.t s.g0 s.g1 s.nx (.slice fa s.free.length fc) (.slice ea s.es.length ec) (.slice ta ls.length tc), .int .i64 m] w (AnsP intV (playO s (ls.take m)) w) := by
  obtain ⟨W, hW⟩ : ∃ W, (w.alloc (.cells (tapeC s.t s.g0 s.g1 s.nx (.slice fa s.free.length fc) (.slice ea s.es.length ec) (.slice ta ls.length tc)) 64)).alloc (.cells (elC 0 0 0 0 (.slice none 0 0) (.slice none 0 0)) 60) = W := ⟨_, rfl⟩
  obtain ⟨hbW, hsW, hh0, hh1⟩ := tape_boxes hW
  obtain ⟨x0, x1, x2, x3, x4, x5, x6⟩ := tape_cells hh0
  have hin := h.below hbW
  have hI := inv_of_check hc
  have HO := hid (ofElder_calls s.t s.g0 s.g1 s.nx s.free fa ea fc ec s.es W (by have := hI.el; omega) (by have := hI.fl; omega) hin.rows hin.nums h.fn)
  have HBW := hid hbW
  have HSW := hid hsW
  have H0 := hid hh0
  have H1 := hid hh1
  have HIN := hid hin
  have HINV := hid hI
  have HT := hid (ht.below hbW)
  have HU := hid (st0_up h.born)
  have HF := hid (faultU s)
  rw [hc] at HF
  have HOQ : Hid (Off (w.heap.size + 1) s fa ea) := off_old h (Nat.le_succ _)
  have z1 : ¬ (m : Int) < 0 := by omega
  have z2 : ¬ (ls.length : Int) < (m : Int) := by omega
  clear h hin hbW hsW hh0 hh1 hc hI ht
  go_enter Try.func48, Try.ntmps48
  go_wp2_with fail
  refine HO.out.mono ?_
  rintro e w1 ⟨p, rfl, hG1, hb1⟩
  rw [HU.out] at hG1
  have HC := hid (fault_calls W.heap.size p false (upS s) w1 hG1)
  rw [HF.out] at HC
  have HB1 := hid hb1
  clear HO hG1 hb1 x0 x1 x2 x3 x4 x5 x6 hW
  go_wp2_with fail
  refine HC.out.mono ?_
  rintro e w3 ⟨rfl, hb2⟩
  have hb3 : Below W.heap.size W w3 := HB1.out.trans (hb2.mono HB1.out.size)
  have hr := (hb3.block w.heap.size (by rw [HSW.out]; omega)).trans H0.out
  obtain ⟨r0, r1, r2, r3, r4, r5, r6⟩ := tape_cells hr
  have hin3 := HIN.out.below hb3
  obtain ⟨V, hV⟩ : ∃ V, w3.alloc (.cells (elC s.t s.g0 s.g1 s.nx (.slice fa s.free.length fc) (.slice ea s.es.length ec)) 60) = V := ⟨_, rfl⟩
  have hbV : Below w3.heap.size w3 V := by rw [← hV]; exact (Below.refl _ _).alloc (Nat.le_refl _) _
  have hhV : V.heap[w3.heap.size]? = some (.cells (elC s.t s.g0 s.g1 s.nx (.slice fa s.free.length fc) (.slice ea s.es.length ec)) 60) := by rw [← hV]; exact heap_alloc_new _ _
  have hs3 : W.heap.size ≤ w3.heap.size := hb3.size
  have HBV : Hid (Below W.heap.size W V) := hb3.trans (hbV.mono hs3)
  have HST : Hid (Mid s ls m w3.heap.size (w.heap.size + 1) 0 V) := ⟨s, _, _, _, _, hhV, hin3.below hbV, off_old hin3 (Nat.le_refl _), HOQ.out, HINV.out, by rw [List.drop_zero]⟩
  clear HC hb2 hb3 hr hin3 hbV hhV HB1 HIN HINV HOQ
  go_wp2_with fail
  clear r0 r1 r2 r3 r4 r5 r6
  go_loopw [8] (fun i wr => ∃ k : Nat, k ≤ m ∧ i = .int .i64 k ∧ Hid (Mid s ls m w3.heap.size (w.heap.size + 1) k wr) ∧ Hid (Below W.heap.size W wr)) (fun i _ => m - (intOf i).toNat)
  case atStart => exact ⟨0, Nat.zero_le _, rfl, HST, HBV⟩
  case round =>
    clear HST HBV hV
    obtain ⟨k, hk, rfl, HM, HBr⟩ := hrel
    obtain ⟨sk, fa', ea', fc', ec', hbox, hin, hoffB, hoffQ, hinv, hpl⟩ := HM.out
    obtain ⟨x0, x1, x2, x3, x4, x5⟩ := elder_cells hbox
    have hBr : w3.heap.size < wr.heap.size := (Array.getElem?_eq_some_iff.1 hbox).1
    have hq := (HBr.out.block (w.heap.size + 1) (by rw [HSW.out]; omega)).trans H1.out
    have hBQ : w.heap.size + 1 ≠ w3.heap.size := by have := HSW.out; omega
    by_cases hkm : k < m
    · have hkz : (k : Int) < (m : Int) := by omega
      have hkl : (k : Int) < (ls.length : Int) := by omega
      obtain ⟨b, o, la, lc, rfl, hcell, hrecs⟩ := (HT.out.below HBr.out).at (i := k) (by omega)
      have hbr : b < wr.heap.size := World.block_lt_of_cell? wr _ hcell
      have htp := (HBr.out.block w.heap.size (by rw [HSW.out]; omega)).trans H0.out
      have hwr : w.heap.size < wr.heap.size := (Array.getElem?_eq_some_iff.1 htp).1
      have r6 := (tape_cells htp).2.2.2.2.2.2
      have HPN := hid (playO_next hm hkm hpl)
      have HMN : Hid (∀ w5 U fv ev base, outC sk (ls.getD k []) = 0 → Row base w5 ev (outS sk (ls.getD k [])).es → NRow base w5 fv (outS sk (ls.getD k [])).free → Below wr.heap.size wr w5 → Below w5.heap.size w5 U → Mid s ls m w3.heap.size (w.heap.size + 1) (k + 1) (setSix U w3.heap.size (.int .i64 (outS sk (ls.getD k [])).t) (.int .i64 (outS sk (ls.getD k [])).g0) (.int .i64 (outS sk (ls.getD k [])).g1) (.int .i64 (outS sk (ls.getD k [])).nx) fv ev)) := fun w5 U fv ev base h0 h1 h2 h3 h4 => by
        have h34 : Below wr.heap.size wr U := h3.trans (h4.mono h3.size)
        exact mid_next hm hkm hinv hin.born hpl h0 h1 h2 h4 ((h34.block _ hBr).trans hbox) ((h34.block _ (Array.getElem?_eq_some_iff.1 hq).1).trans hq)
      have HSA : Hid (∀ wx, Below wr.heap.size wr wx → Calls Try.prog 41 #[elderV sk.t sk.g0 sk.g1 sk.nx (.slice fa' sk.free.length fc') (.slice ea' sk.es.length ec'), .slice la (ls.getD k []).length lc] wx (Ans intV sk (ls.getD k []) wx)) := fun wx hx => stepR_all sk fa' ea' la fc' ec' lc (ls.getD k []) wx (hin.below hx) (by have := hinv.el; omega) (by have := hinv.fl; omega) (hrecs.below hx)
      have K0 : ∀ w', Below wr.heap.size wr w' → w'.cell? ⟨w3.heap.size, 0, none⟩ = some (.int .i64 sk.t) := fun w' h => (h.cell (p := ⟨w3.heap.size, 0, none⟩) hBr).trans x0
      have K1 : ∀ w', Below wr.heap.size wr w' → w'.cell? ⟨w3.heap.size, 1, none⟩ = some (.int .i64 sk.g0) := fun w' h => (h.cell (p := ⟨w3.heap.size, 1, none⟩) hBr).trans x1
      have K2 : ∀ w', Below wr.heap.size wr w' → w'.cell? ⟨w3.heap.size, 2, none⟩ = some (.int .i64 sk.g1) := fun w' h => (h.cell (p := ⟨w3.heap.size, 2, none⟩) hBr).trans x2
      have K3 : ∀ w', Below wr.heap.size wr w' → w'.cell? ⟨w3.heap.size, 3, none⟩ = some (.int .i64 sk.nx) := fun w' h => (h.cell (p := ⟨w3.heap.size, 3, none⟩) hBr).trans x3
      have K4 : ∀ w', Below wr.heap.size wr w' → w'.cell? ⟨w3.heap.size, 4, none⟩ = some (.slice fa' sk.free.length fc') := fun w' h => (h.cell (p := ⟨w3.heap.size, 4, none⟩) hBr).trans x4
      have K5 : ∀ w', Below wr.heap.size wr w' → w'.cell? ⟨w3.heap.size, 5, none⟩ = some (.slice ea' sk.es.length ec') := fun w' h => (h.cell (p := ⟨w3.heap.size, 5, none⟩) hBr).trans x5
      have K6 : ∀ w', Below wr.heap.size wr w' → w'.cell? ⟨w.heap.size, 6, none⟩ = some (.slice (some ⟨b, o, none⟩) ls.length tc) := fun w' h => (h.cell (p := ⟨w.heap.size, 6, none⟩) hwr).trans r6
      have K7 : ∀ w', Below wr.heap.size wr w' → w'.cell? ⟨b, o + k, none⟩ = some (.slice la (ls.getD k []).length lc) := fun w' h => (h.cell (p := ⟨b, o + k, none⟩) hbr).trans hcell
      have HBOX := hid hbox
      have HQ := hid hq
      generalize ls.getD k [] = l at K7 hcell HPN HMN HSA
      clear hbox hq hin hoffB hoffQ hinv hpl hrecs HM hcell r6 htp x0 x1 x2 x3 x4 x5
      go_wp2_with fail
      go_cut [9, 10, 11] (fun r y c wx => ∃ g fv ev, r = .pointer (some ⟨g, 0, none⟩) ∧ c = .int .i64 (outC sk l) ∧ Hid (wr.heap.size ≤ g ∧ wx.heap[g]? = some (.cells (elC (outS sk l).t (outS sk l).g0 (outS sk l).g1 (outS sk l).nx fv ev) 60) ∧ Row wr.heap.size wx ev (outS sk l).es ∧ NRow wr.heap.size wx fv (outS sk l).free ∧ Below wr.heap.size wr wx))
      case first =>
        go_region_held3 (fun w' => Below wr.heap.size wr w') (first | with_reducible exact (Below.refl _ _).drew | with_reducible exact HB2.out | with_reducible exact Below.alloc HB2.out HB2.out.size _ | with_reducible exact below_sixN HB2.out (Nat.le_refl _) | with_reducible exact Below.drew (Below.alloc (Below.refl _ _) (Nat.le_refl _) _))
          (first
            | (go_at_call 41; refine (HSA.out _ (by assumption)).mono ?_; rintro e w5 ⟨fv, ev, bv, rfl, h1, h2, h3, hb5⟩; have hq5 := zero_box hb5; obtain ⟨q0, q1, q2, q3, q4, q5⟩ := elder_cells hq5; have gq := fun j => frozen_of_row w5 wr.heap.size j _ _ hq5; have HQ5 := hid hq5; obtain ⟨ea5, ec5, rfl, _, _, _⟩ := h1.open; obtain ⟨fa5, fc5, rfl, _, _, _⟩ := h2.open; obtain ⟨ba5, bc5, rfl, _, _, _⟩ := h3.open; have HB2 : Hid (Below wr.heap.size wr w5) := Below.trans (by assumption) (hb5.mono (Below.size (by assumption))); have HR1 := hid h1; have HR2 := hid h2; clear h1 h2 h3 hb5 hq5)
            | (go_at_call 41; refine (HSA.out _ (by assumption)).mono ?_; rintro e w5 ⟨fv, ev, bv, rfl, h1, h2, h3, hb5⟩; obtain ⟨ea5, ec5, rfl, _, _, _⟩ := h1.open; obtain ⟨fa5, fc5, rfl, _, _, _⟩ := h2.open; obtain ⟨ba5, bc5, rfl, _, _, _⟩ := h3.open; have HB2 : Hid (Below wr.heap.size wr w5) := Below.trans (by assumption) (hb5.mono (Below.size (by assumption))); have HR1 := hid h1; have HR2 := hid h2; clear h1 h2 h3 hb5))
        · go_wp2
          go_meet
          have hr1 : Row wr.heap.size w5 _ (outS sk l).es := HR1.out
          have hr2 : NRow wr.heap.size w5 _ (outS sk l).free := HR2.out
          exact ⟨w5.heap.size, _, _, rfl, rfl, HB2.out.size, heap_alloc_new w5 _, World.ownsRow.alloc hr1 _, World.ownsRow.alloc hr2 _, HB2.out.alloc HB2.out.size _⟩
        · go_wp2
          go_meet
          have hz : wr.heap.size < ((wr.alloc (.cells (elC 0 0 0 0 (.slice none 0 0) (.slice none 0 0)) 60)).drew).heap.size := by simp [go_sem]
          exact ⟨wr.heap.size, _, _, rfl, rfl, Nat.le_refl _, heap_six_same HQ5.out, row_sixP (b := wr.heap.size) HR1.out hz (Nat.le_of_lt hz), row_sixP (b := wr.heap.size) HR2.out hz (Nat.le_of_lt hz), below_six (b := wr.heap.size) HB2.out (Nat.le_refl _)⟩
      case rest =>
        obtain ⟨g, fv, ev, rfl, rfl, HMM⟩ := hcut
        obtain ⟨hg, hhg, h1, h2, hbc⟩ := HMM.out
        obtain ⟨ea5, ec5, rfl, _, _, _⟩ := h1.open
        obtain ⟨fa5, fc5, rfl, _, _, _⟩ := h2.open
        have hboxU := (hbc.block _ hBr).trans HBOX.out
        have hqU := (hbc.block _ (Array.getElem?_eq_some_iff.1 HQ.out).1).trans HQ.out
        obtain ⟨u0, u1, u2, u3, u4, u5⟩ := elder_cells hhg
        obtain ⟨p0, p1, p2, p3, p4, p5⟩ := elder_cells hboxU
        obtain ⟨q0, q1, q2, q3, q4, q5⟩ := elder_cells hqU
        have gB := fun j => frozen_of_row wc w3.heap.size j _ _ hboxU
        have gQ := fun j => frozen_of_row wc (w.heap.size + 1) j _ _ hqU
        have hBU : w3.heap.size ≠ g := by omega
        have HBU : Hid (Below W.heap.size W wc) := HBr.out.trans (hbc.mono HBr.out.size)
        clear HSA K0 K1 K2 K3 K4 K5 K6 K7 HMM
        by_cases hc0 : outC sk l = 0
        · have HMU := hid (HMN.out wc wc _ _ _ hc0 h1 h2 hbc (Below.refl _ _))
          rw [hc0]
          clear h1 h2 hhg hboxU hqU hbc HMN HPN hc0 q0 q1 q2 q3 q4 q5 gQ
          go_wp2
          go_roundw
          case rel => exact ⟨k + 1, by omega, by go_num, HMU, below_six (b := w3.heap.size) HBU.out hs3⟩
          case measure => simp [intOf]; omega
        · have HPE := hid (HPN.out.2 hc0)
          have hcz : (0 : Int) < (outC sk l : Int) := by omega
          clear h1 h2 hhg hboxU hqU hbc HMN HPN p0 p1 p2 p3 p4 p5 gB
          go_wp2
          refine bodyPost_ret (v := .tuple #[zeroE, .int .i64 (outC sk l)]) (by simp [results, Try.results48, go_sem, q0, q1, q2, q3, q4, q5]) rfl ?_
          rw [HPE.out]
          exact ansP_zero rfl (below_six (b := w.heap.size + 1) (HBW.out.trans (HBU.out.mono (by rw [HSW.out]; omega))) (Nat.le_succ _))
    · have hke : k = m := by omega
      subst hke
      have hkz : ¬ (k : Int) < (k : Int) := by omega
      have hpe : playO s (ls.take k) = (0, sk) := by
        rw [hpl, List.drop_of_length_le (by rw [List.length_take]; omega)]
        rfl
      obtain ⟨q0, q1, q2, q3, q4, q5⟩ := elder_cells hq
      have gQ := fun j => frozen_of_row wr (w.heap.size + 1) j _ _ hq
      have HIN := hid hin
      have HOQ := hid hoffQ
      have HPE := hid hpe
      have hBQ2 : w3.heap.size ≠ w.heap.size + 1 := fun e => hBQ e.symm
      clear hbox hin hoffB hoffQ hinv hpl hq HM hpe
      go_wp2
      refine bodyPost_ret (v := .tuple #[elderV sk.t sk.g0 sk.g1 sk.nx (.slice fa' sk.free.length fc') (.slice ea' sk.es.length ec'), .int .i64 0]) (by simp [results, Try.results48, go_sem, q0, q1, q2, q3, q4, q5]) rfl ?_
      rw [HPE.out]
      have h6 := HIN.out.six (B := w.heap.size + 1) HOQ.out (a0 := .int .i64 sk.t) (a1 := .int .i64 sk.g0) (a2 := .int .i64 sk.g1) (a3 := .int .i64 sk.nx) (a4 := .slice fa' sk.free.length fc') (a5 := .slice ea' sk.es.length ec')
      exact ⟨fa', ea', fc', ec', rfl, h6.nums, h6.rows, below_six (b := w.heap.size + 1) (HBW.out.trans (HBr.out.mono (by rw [HSW.out]; omega))) (Nat.le_succ _)⟩
end
end Go.Proofs.Ytgiieepfhohmhaa
