/- A play of a tape, of which what comes out may go in again. -/
import Derived.Test.YtgiieepfhohmhabTPlyB
namespace Go.Proofs.Ytgiieepfhohmhab
open Go.RowKit Go.Maps
def AnsQ (r : Nat × St) (w : World) (e : Ending) (w' : World) : Prop :=
  ∃ fa ea fc ec, e = .returned (.tuple #[elderV r.2.t r.2.g0 r.2.g1 r.2.nx (.slice fa r.2.free.length fc) (.slice ea r.2.es.length ec), errV r.1]) ∧ InE w' r.2 fa ea fc ec ∧ Below w.heap.size w w'
theorem inE_zero (w : World) : InE w zeroS none none 0 0 := ⟨fun _ => rfl, fun _ => rfl, Nat.le_refl _, Or.inl rfl, Or.inl rfl, fun _ hi => absurd hi (Nat.not_lt_zero _), rfl⟩
theorem ansQ_zero {c : Nat} {w : World} {e : Ending} {w' : World} (he : e = .returned (.tuple #[zeroE, errV c])) (hb : Below w.heap.size w w') : AnsQ (c, zeroS) w e w' :=
  ⟨none, none, 0, 0, he, inE_zero _, hb⟩
section
variable (s : St) (fa ea ta : Option Addr) (fc ec tc : Nat) (ls : List (List (List Int))) (n : Int) (w : World)
set_option maxRecDepth 100000 in
set_option maxHeartbeats 8000000 in
theorem playQ_bound (hn : n < 0 ∨ (ls.length : Int) < n) :
    Calls Try.prog 18 #[tapeV s.t s.g0 s.g1 s.nx (.slice fa s.free.length fc) (.slice ea s.es.length ec) (.slice ta ls.length tc), .int .i64 n] w (AnsQ (1, zeroS) w) := by
  obtain ⟨W, hW⟩ : ∃ W, (w.alloc (.cells (tapeC s.t s.g0 s.g1 s.nx (.slice fa s.free.length fc) (.slice ea s.es.length ec) (.slice ta ls.length tc)) 39)).alloc (.cells (elC 0 0 0 0 (.slice none 0 0) (.slice none 0 0)) 36) = W := ⟨_, rfl⟩
  obtain ⟨hbW, hsW, hh0, hh1⟩ := tape_boxes hW
  obtain ⟨_, _, _, _, _, _, x6⟩ := tape_cells hh0
  obtain ⟨q0, q1, q2, q3, q4, q5⟩ := elder_cells hh1
  have f0 := fun j => frozen_of_row W (w.heap.size + 1) j _ _ hh1
  have HBW := hid hbW
  clear hbW hsW hh0 hh1
  have hw : n < 0 ∨ (¬ n < 0 ∧ (ls.length : Int) < n) := by omega
  clear hn
  rcases hw with h1 | ⟨h1, h2⟩
  all_goals
    go_enter Try.func18, Try.ntmps18
    go_wp2
    exact bodyPost_ret (v := .tuple #[zeroE, errV 1]) (by simp [results, Try.results18, go_sem, q0, q1, q2, q3, q4, q5, errV]) rfl (ansQ_zero rfl (below_six (b := w.heap.size + 1) HBW.out (Nat.le_succ _)))
set_option maxRecDepth 100000 in
set_option maxHeartbeats 8000000 in
theorem playQ_check (h : InE w s fa ea fc ec) (h0 : 0 ≤ n) (hl : n ≤ (ls.length : Int)) (hc : checkE s.t s.g0 s.g1 s.nx s.free s.es ≠ 0) :
    Calls Try.prog 18 #[tapeV s.t s.g0 s.g1 s.nx (.slice fa s.free.length fc) (.slice ea s.es.length ec) (.slice ta ls.length tc), .int .i64 n] w (AnsQ (checkE s.t s.g0 s.g1 s.nx s.free s.es, zeroS) w) := by
  obtain ⟨W, hW⟩ : ∃ W, (w.alloc (.cells (tapeC s.t s.g0 s.g1 s.nx (.slice fa s.free.length fc) (.slice ea s.es.length ec) (.slice ta ls.length tc)) 39)).alloc (.cells (elC 0 0 0 0 (.slice none 0 0) (.slice none 0 0)) 36) = W := ⟨_, rfl⟩
  obtain ⟨hbW, hsW, hh0, hh1⟩ := tape_boxes hW
  obtain ⟨x0, x1, x2, x3, x4, x5, x6⟩ := tape_cells hh0
  have hin := h.below hbW
  have HC := hid (check_calls s.t s.g0 s.g1 s.nx s.free fa ea fc ec s.es W h.cap hin.rows hin.nums h.wf)
  have HBW := hid hbW
  have HSW := hid hsW
  have H1 := hid hh1
  have hcc := hc
  rw [errV_some hc] at HC
  have HEV := hid (errV_some hcc)
  generalize checkE s.t s.g0 s.g1 s.nx s.free s.es = m at HC HEV ⊢
  have z1 : ¬ n < 0 := by omega
  have z2 : ¬ (ls.length : Int) < n := by omega
  clear h hin hbW hsW hh0 hh1 hc hcc h0 hl
  go_enter Try.func18, Try.ntmps18
  go_wp2_with fail
  refine HC.out.mono ?_
  rintro e w2 ⟨rfl, hb2⟩
  have hq := (hb2.block (w.heap.size + 1) (by rw [HSW.out]; omega)).trans H1.out
  obtain ⟨q0, q1, q2, q3, q4, q5⟩ := elder_cells hq
  have f0 := fun j => frozen_of_row w2 (w.heap.size + 1) j _ _ hq
  have HB2 : Hid (Below w.heap.size w w2) := HBW.out.trans (hb2.mono (by rw [HSW.out]; omega))
  clear HC hb2 hq x0 x1 x2 x3 x4 x5 x6 hW
  go_wp2
  exact bodyPost_ret (v := .tuple #[zeroE, .iface 65 (.int .i64 m)]) (by simp [results, Try.results18, go_sem, q0, q1, q2, q3, q4, q5]) rfl (ansQ_zero (by rw [HEV.out]) (below_six (b := w.heap.size + 1) HB2.out (Nat.le_succ _)))
set_option maxRecDepth 100000 in
set_option maxHeartbeats 8000000 in
theorem playQ_good (h : InE w s fa ea fc ec) (ht : Tks w ta ls) (htc : ls.length ≤ tc) (hls : ls.length ≤ 1000) (m : Nat) (hm : m ≤ ls.length) (hc : checkE s.t s.g0 s.g1 s.nx s.free s.es = 0) :
    Calls Try.prog 18 #[tapeV s.t s.g0 s.g1 s.nx (.slice fa s.free.length fc) (.slice ea s.es.length ec) (.slice ta ls.length tc), .int .i64 m] w (AnsQ (playO s (ls.take m)) w) := by
  obtain ⟨W, hW⟩ : ∃ W, (w.alloc (.cells (tapeC s.t s.g0 s.g1 s.nx (.slice fa s.free.length fc) (.slice ea s.es.length ec) (.slice ta ls.length tc)) 39)).alloc (.cells (elC 0 0 0 0 (.slice none 0 0) (.slice none 0 0)) 36) = W := ⟨_, rfl⟩
  obtain ⟨hbW, hsW, hh0, hh1⟩ := tape_boxes hW
  obtain ⟨x0, x1, x2, x3, x4, x5, x6⟩ := tape_cells hh0
  have hin := h.below hbW
  have hI := inv_of_check hc
  have HC := hid (check_calls s.t s.g0 s.g1 s.nx s.free fa ea fc ec s.es W h.cap hin.rows hin.nums h.wf)
  have HBW := hid hbW
  have HSW := hid hsW
  have H0 := hid hh0
  have H1 := hid hh1
  have HIN := hid hin
  have HINV := hid hI
  have HBORN := hid h.born
  have HT := hid (ht.below hbW)
  rw [hc, errV_zero] at HC
  have z1 : ¬ (m : Int) < 0 := by omega
  have z2 : ¬ (ls.length : Int) < (m : Int) := by omega
  clear h hin hbW hsW hh0 hh1 hc hI ht
  go_enter Try.func18, Try.ntmps18
  go_wp2_with fail
  refine HC.out.mono ?_
  rintro e w2 ⟨rfl, hb2⟩
  have hr := (hb2.block w.heap.size (by rw [HSW.out]; omega)).trans H0.out
  obtain ⟨r0, r1, r2, r3, r4, r5, r6⟩ := tape_cells hr
  have hin2 := HIN.out.below hb2
  have HFR := hid (fresh_calls s.t s.g0 s.g1 s.nx s.free fa ea fc ec s.es w2 hin2.fn hin2.en (by have := HINV.out.fl; omega) (by have := HINV.out.el; omega) hin2.rows hin2.nums)
  have HB2 := hid hb2
  clear HC hb2 hr hin2 x0 x1 x2 x3 x4 x5 x6 hW
  go_wp2_with fail
  refine HFR.out.mono ?_
  rintro e w3 ⟨fv, ev, rfl, hrf, hre, hb3⟩
  obtain ⟨ea3, ec3, rfl, _, _, _⟩ := hre.open
  obtain ⟨fa3, fc3, rfl, _, _, _⟩ := hrf.open
  obtain ⟨V, hV⟩ : ∃ V, w3.alloc (.cells (elC s.t s.g0 s.g1 s.nx (.slice fa3 s.free.length fc3) (.slice ea3 s.es.length ec3)) 36) = V := ⟨_, rfl⟩
  have hbV : Below w3.heap.size w3 V := by rw [← hV]; exact (Below.refl _ _).alloc (Nat.le_refl _) _
  have hhV : V.heap[w3.heap.size]? = some (.cells (elC s.t s.g0 s.g1 s.nx (.slice fa3 s.free.length fc3) (.slice ea3 s.es.length ec3)) 36) := by rw [← hV]; exact heap_alloc_new _ _
  have hs3 : W.heap.size ≤ w3.heap.size := Nat.le_trans HB2.out.size hb3.size
  have HBV : Hid (Below W.heap.size W V) := (HB2.out.trans (hb3.mono HB2.out.size)).trans (hbV.mono hs3)
  have v6 : V.cell? ⟨w.heap.size, 6, none⟩ = some (.slice ta ls.length tc) := (tape_cells ((HBV.out.block w.heap.size (by rw [HSW.out]; omega)).trans H0.out)).2.2.2.2.2.2
  have hhQ : V.heap[w.heap.size + 1]? = _ := (HBV.out.block (w.heap.size + 1) (by rw [HSW.out]; omega)).trans H1.out
  obtain ⟨fa4, ea4, fc4, ec4, e1, e2, hin4, hoff4⟩ := inE_rows HINV.out HBORN.out (row_below hre hbV) (row_below hrf hbV)
  cases e1
  cases e2
  have HST : Hid (Mid s ls m w3.heap.size (w.heap.size + 1) 0 V) := ⟨s, _, _, _, _, hhV, hin4, hoff4 _ _ hhV, hoff4 _ _ hhQ, HINV.out, by rw [List.drop_zero]⟩
  have hmc : (m : Int) ≤ (tc : Int) := by omega
  have hm0 : (0 : Int) ≤ (m : Int) := by omega
  clear HFR hrf hre hb3 hbV hhV hhQ hin4 hoff4 r0 r1 r2 r3 r4 r5 r6 HB2 HIN HINV
  go_wp2_with fail
  clear v6
  go_loopw [39] (fun i wr => ∃ k : Nat, k ≤ m ∧ i = .int .i64 k ∧ Hid (Mid s ls m w3.heap.size (w.heap.size + 1) k wr) ∧ Hid (Below W.heap.size W wr)) (fun i _ => m - (intOf i).toNat)
  case atStart => exact ⟨0, Nat.zero_le _, rfl, HST, HBV⟩
  case round =>
    clear HST HBV hV
    obtain ⟨k, hk, rfl, HM, HBr⟩ := hrel
    obtain ⟨sk, fa', ea', fc', ec', hbox, hin, hoffB, hoffQ, hinv, hpl⟩ := HM.out
    obtain ⟨x0, x1, x2, x3, x4, x5⟩ := elder_cells hbox
    have hBr : w3.heap.size < wr.heap.size := (Array.getElem?_eq_some_iff.1 hbox).1
    have hq := (HBr.out.block (w.heap.size + 1) (by rw [HSW.out]; omega)).trans H1.out
    have hBQ : w.heap.size + 1 ≠ w3.heap.size := by have := HSW.out; omega
    by_cases hkm : k < m
    · have hkz : (k : Int) < (m : Int) := by omega
      obtain ⟨b, o, la, lc, rfl, hcell, hrecs⟩ := (HT.out.below HBr.out).at (i := k) (by omega)
      have HPN := hid (playO_next hm hkm hpl)
      have HMN : Hid (∀ w5 U fv ev base, outC sk (ls.getD k []) = 0 → Row base w5 ev (outS sk (ls.getD k [])).es → NRow base w5 fv (outS sk (ls.getD k [])).free → Below wr.heap.size wr w5 → Below w5.heap.size w5 U → Mid s ls m w3.heap.size (w.heap.size + 1) (k + 1) (setSix U w3.heap.size (.int .i64 (outS sk (ls.getD k [])).t) (.int .i64 (outS sk (ls.getD k [])).g0) (.int .i64 (outS sk (ls.getD k [])).g1) (.int .i64 (outS sk (ls.getD k [])).nx) fv ev)) := fun w5 U fv ev base h0 h1 h2 h3 h4 => by
        have h34 : Below wr.heap.size wr U := h3.trans (h4.mono h3.size)
        exact mid_next hm hkm hinv hin.born hpl h0 h1 h2 h4 ((h34.block _ hBr).trans hbox) ((h34.block _ (Array.getElem?_eq_some_iff.1 hq).1).trans hq)
      have HSA := hid (step_all sk fa' ea' la fc' ec' lc (ls.getD k []) wr hin hrecs)
      have HBOX := hid hbox
      have HQ := hid hq
      generalize ls.getD k [] = l at hcell HPN HMN HSA
      clear hbox hq hin hoffB hoffQ hinv hpl hrecs HM
      go_wp2_with fail
      refine HSA.out.mono ?_
      rintro e w5 ⟨fv, ev, bv, rfl, h1, h2, h3, hb5⟩
      obtain ⟨ea5, ec5, rfl, _, _, _⟩ := h1.open
      obtain ⟨fa5, fc5, rfl, _, _, _⟩ := h2.open
      obtain ⟨ba5, bc5, rfl, _, _, _⟩ := h3.open
      obtain ⟨U, hU⟩ : ∃ U, w5.alloc (.cells (elC (outS sk l).t (outS sk l).g0 (outS sk l).g1 (outS sk l).nx (.slice fa5 (outS sk l).free.length fc5) (.slice ea5 (outS sk l).es.length ec5)) 36) = U := ⟨_, rfl⟩
      have hbU : Below w5.heap.size w5 U := by rw [← hU]; exact (Below.refl _ _).alloc (Nat.le_refl _) _
      have hhU : U.heap[w5.heap.size]? = some (.cells (elC (outS sk l).t (outS sk l).g0 (outS sk l).g1 (outS sk l).nx (.slice fa5 (outS sk l).free.length fc5) (.slice ea5 (outS sk l).es.length ec5)) 36) := by rw [← hU]; exact heap_alloc_new _ _
      have hb5U : Below wr.heap.size wr U := hb5.trans (hbU.mono hb5.size)
      have hboxU := (hb5U.block _ hBr).trans HBOX.out
      have hqU := (hb5U.block _ (Array.getElem?_eq_some_iff.1 HQ.out).1).trans HQ.out
      obtain ⟨u0, u1, u2, u3, u4, u5⟩ := elder_cells hhU
      obtain ⟨p0, p1, p2, p3, p4, p5⟩ := elder_cells hboxU
      obtain ⟨q0, q1, q2, q3, q4, q5⟩ := elder_cells hqU
      have gB := fun j => frozen_of_row U w3.heap.size j _ _ hboxU
      have gQ := fun j => frozen_of_row U (w.heap.size + 1) j _ _ hqU
      have hBU : w3.heap.size ≠ w5.heap.size := by have := hb5.size; omega
      have HBU : Hid (Below W.heap.size W U) := HBr.out.trans (hb5U.mono HBr.out.size)
      clear HSA x0 x1 x2 x3 x4 x5 hcell
      by_cases hc0 : outC sk l = 0
      · have HMU := hid (HMN.out w5 U _ _ _ hc0 h1 h2 hb5 hbU)
        rw [hc0, errV_zero]
        clear h1 h2 h3 hb5 hbU hhU hb5U hboxU hqU HMN HPN hc0 q0 q1 q2 q3 q4 q5 gQ
        go_wp2
        go_roundw
        case rel => exact ⟨k + 1, by omega, by go_num, HMU, below_six (b := w3.heap.size) HBU.out hs3⟩
        case measure => simp [intOf]; omega
      · have HPE := hid (HPN.out.2 hc0)
        have hev := errV_some hc0
        rw [hev]
        clear h1 h2 h3 hb5 hbU hhU hb5U hboxU hqU HMN HPN p0 p1 p2 p3 p4 p5 gB
        have HEV := hid hev
        clear hev
        go_wp2
        refine bodyPost_ret (v := .tuple #[zeroE, .iface 65 (.int .i64 (outC sk l))]) (by simp [results, Try.results18, go_sem, q0, q1, q2, q3, q4, q5]) rfl ?_
        rw [HPE.out]
        exact ansQ_zero (by rw [HEV.out]) (below_six (b := w.heap.size + 1) (HBW.out.trans (HBU.out.mono (by rw [HSW.out]; omega))) (Nat.le_succ _))
    · have hke : k = m := by omega
      subst hke
      have hkz : ¬ (k : Int) < (k : Int) := by omega
      have hpe : playO s (ls.take k) = (0, sk) := by
        rw [hpl, List.drop_of_length_le (by rw [List.length_take]; omega)]
        rfl
      obtain ⟨q0, q1, q2, q3, q4, q5⟩ := elder_cells hq
      have gQ := fun j => frozen_of_row wr (w.heap.size + 1) j _ _ hq
      have HIN := hid hin
      have HOQ := hid hoffQ
      have HPE := hid hpe
      have hBQ2 : w3.heap.size ≠ w.heap.size + 1 := fun e => hBQ e.symm
      clear hbox hin hoffB hoffQ hinv hpl hq HM hpe
      go_wp2
      refine bodyPost_ret (v := .tuple #[elderV sk.t sk.g0 sk.g1 sk.nx (.slice fa' sk.free.length fc') (.slice ea' sk.es.length ec'), .nilIface]) (by simp [results, Try.results18, go_sem, q0, q1, q2, q3, q4, q5]) rfl ?_
      rw [HPE.out]
      have h6 := HIN.out.six (B := w.heap.size + 1) HOQ.out (a0 := .int .i64 sk.t) (a1 := .int .i64 sk.g0) (a2 := .int .i64 sk.g1) (a3 := .int .i64 sk.nx) (a4 := .slice fa' sk.free.length fc') (a5 := .slice ea' sk.es.length ec')
      exact ⟨fa', ea', fc', ec', rfl, h6, below_six (b := w.heap.size + 1) (HBW.out.trans (HBr.out.mono (by rw [HSW.out]; omega))) (Nat.le_succ _)⟩
end
theorem playQ_all (s : St) (fa ea ta : Option Addr) (fc ec tc : Nat) (ls : List (List (List Int))) (n : Int) (w : World) (h : InE w s fa ea fc ec) (ht : Tks w ta ls) (htc : ls.length ≤ tc) (hls : ls.length ≤ 1000) :
    Calls Try.prog 18 #[tapeV s.t s.g0 s.g1 s.nx (.slice fa s.free.length fc) (.slice ea s.es.length ec) (.slice ta ls.length tc), .int .i64 n] w (AnsQ (playC s ls n) w) := by
  by_cases hn : n < 0 ∨ (ls.length : Int) < n
  · have e : playC s ls n = (1, zeroS) := by unfold playC; rw [if_pos hn]
    rw [e]
    exact playQ_bound s fa ea ta fc ec tc ls n w hn
  · by_cases hc : checkE s.t s.g0 s.g1 s.nx s.free s.es = 0
    · have e : playC s ls n = playO s (ls.take n.toNat) := by unfold playC; rw [if_neg hn, if_pos hc]
      have en : n = (n.toNat : Int) := by omega
      rw [e]
      have := playQ_good s fa ea ta fc ec tc ls w h ht htc hls n.toNat (by omega) hc
      rw [← en] at this
      exact this
    · have e : playC s ls n = (checkE s.t s.g0 s.g1 s.nx s.free s.es, zeroS) := by unfold playC; rw [if_neg hn, if_neg hc]
      rw [e]
      exact playQ_check s fa ea ta fc ec tc ls n w h (by omega) (by omega) hc
end Go.Proofs.Ytgiieepfhohmhab
