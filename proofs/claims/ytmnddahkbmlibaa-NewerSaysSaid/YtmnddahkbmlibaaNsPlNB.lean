/- The program: a play of the newer game. -/
import Derived.Test.YtmnddahkbmlibaaNsPlN
namespace Go.Proofs.Ytmnddahkbmlibaa
open Go.RowKit Go.Maps
section
variable (s : St) (ua ta : Option Addr) (uc tc : Nat) (ls : List (List (List Int))) (n : Int) (w : World)
set_option maxRecDepth 100000 in
set_option maxHeartbeats 8000000 in
theorem playN_bound (hn : n < 0 ∨ (ls.length : Int) < n) :
    Calls Try.prog 57 #[reelV s.t s.g0 s.g1 s.nx (.slice ua s.es.length uc) (.slice ta ls.length tc), .int .i64 n] w (AnsPN errV (1, zeroS) w) := by
  obtain ⟨W, hW⟩ : ∃ W, (w.alloc (.cells (reelC s.t s.g0 s.g1 s.nx (.slice ua s.es.length uc) (.slice ta ls.length tc)) 94)).alloc (.cells (newerC 0 0 0 0 (.slice none 0 0)) 90) = W := ⟨_, rfl⟩
  obtain ⟨hbW, hsW, hh0, hh1⟩ := reel_boxes hW
  obtain ⟨_, _, _, _, _, x5⟩ := reel_cells hh0
  obtain ⟨q0, q1, q2, q3, q4, f0⟩ := five_cells hh1
  have HBW := hid hbW
  have HWI := hid (withinN_calls n 0 ls.length W)
  have hz : inZ n 0 ls.length = false := by unfold inZ; simp; omega
  rw [hz] at HWI
  clear hbW hsW hh0 hh1 hn hz
  go_enter Try.func57, Try.ntmps57
  go_wp2_with fail
  refine HWI.out.mono ?_
  rintro e w2 ⟨rfl, rfl⟩
  go_wp2
  exact bodyPost_ret (v := .tuple #[zeroNV, errV 1]) (by simp [results, Try.results57, go_sem, q0, q1, q2, q3, q4, errV]) rfl (ansPN_zero rfl (below_five (b := w.heap.size + 1) HBW.out (Nat.le_succ _)))
set_option maxRecDepth 100000 in
set_option maxHeartbeats 8000000 in
theorem playN_check (h : InW w s ua uc) (h0 : 0 ≤ n) (hl : n ≤ (ls.length : Int)) (hc : ckN s ≠ 0) :
    Calls Try.prog 57 #[reelV s.t s.g0 s.g1 s.nx (.slice ua s.es.length uc) (.slice ta ls.length tc), .int .i64 n] w (AnsPN errV (ckN s, zeroS) w) := by
  obtain ⟨W, hW⟩ : ∃ W, (w.alloc (.cells (reelC s.t s.g0 s.g1 s.nx (.slice ua s.es.length uc) (.slice ta ls.length tc)) 94)).alloc (.cells (newerC 0 0 0 0 (.slice none 0 0)) 90) = W := ⟨_, rfl⟩
  obtain ⟨hbW, hsW, hh0, hh1⟩ := reel_boxes hW
  obtain ⟨x0, x1, x2, x3, x4, x5⟩ := reel_cells hh0
  have hin := h.below hbW
  have HC : Hid (Calls Try.prog 54 #[newerV s.t s.g0 s.g1 s.nx (.slice ua s.es.length uc)] W fun e w' => e = .returned (errV (ckN s)) ∧ Below W.heap.size W w') := checkNewer_calls s.t s.g0 s.g1 s.nx s.es ua uc W hin.rows
  have HBW := hid hbW
  have HSW := hid hsW
  have H1 := hid hh1
  have hcc := hc
  rw [errV_some hc] at HC
  have HEV := hid (errV_some hcc)
  generalize ckN s = m at HC HEV ⊢
  have HWI := hid (withinN_calls n 0 ls.length W)
  have hz : inZ n 0 ls.length = true := by unfold inZ; simp; omega
  rw [hz] at HWI
  clear h hin hbW hsW hh0 hh1 hc hcc h0 hl hz
  go_enter Try.func57, Try.ntmps57
  go_wp2_with fail
  refine HWI.out.mono ?_
  rintro e w1 ⟨rfl, rfl⟩
  go_wp2_with fail
  refine HC.out.mono ?_
  rintro e w2 ⟨rfl, hb2⟩
  have hq := (hb2.block (w.heap.size + 1) (by rw [HSW.out]; omega)).trans H1.out
  obtain ⟨q0, q1, q2, q3, q4, f0⟩ := five_cells hq
  have HB2 : Hid (Below w.heap.size w w2) := HBW.out.trans (hb2.mono (by rw [HSW.out]; omega))
  clear HC hb2 hq x0 x1 x2 x3 x4 x5 hW
  go_wp2
  exact bodyPost_ret (v := .tuple #[zeroNV, .iface 131 (.int .i64 m)]) (by simp [results, Try.results57, go_sem, q0, q1, q2, q3, q4]) rfl (ansPN_zero (by rw [HEV.out]) (below_five (b := w.heap.size + 1) HB2.out (Nat.le_succ _)))
set_option maxRecDepth 100000 in
set_option maxHeartbeats 8000000 in
theorem playN_good (h : InW w s ua uc) (ht : TksN w ta ls) (htc : ls.length ≤ tc) (hls : ls.length ≤ 1000) (m : Nat) (hm : m ≤ ls.length) (hc : ckN s = 0) :
    Calls Try.prog 57 #[reelV s.t s.g0 s.g1 s.nx (.slice ua s.es.length uc) (.slice ta ls.length tc), .int .i64 m] w (AnsPN errV (playON s (ls.take m)) w) := by
  obtain ⟨W, hW⟩ : ∃ W, (w.alloc (.cells (reelC s.t s.g0 s.g1 s.nx (.slice ua s.es.length uc) (.slice ta ls.length tc)) 94)).alloc (.cells (newerC 0 0 0 0 (.slice none 0 0)) 90) = W := ⟨_, rfl⟩
  obtain ⟨hbW, hsW, hh0, hh1⟩ := reel_boxes hW
  obtain ⟨x0, x1, x2, x3, x4, x5⟩ := reel_cells hh0
  have hin := h.below hbW
  have hI := invN_of_check h.fr hc
  have HC : Hid (Calls Try.prog 54 #[newerV s.t s.g0 s.g1 s.nx (.slice ua s.es.length uc)] W fun e w' => e = .returned (errV (ckN s)) ∧ Below W.heap.size W w') := checkNewer_calls s.t s.g0 s.g1 s.nx s.es ua uc W hin.rows
  have HBW := hid hbW
  have HSW := hid hsW
  have H0 := hid hh0
  have H1 := hid hh1
  have HIN := hid hin
  have HINV := hid hI
  have HBORN := hid h.born
  have HT := hid (ht.below hbW)
  rw [hc, errV_zero] at HC
  have HWI := hid (withinN_calls m 0 ls.length W)
  have hz : inZ m 0 ls.length = true := by unfold inZ; simp; omega
  rw [hz] at HWI
  clear h hin hbW hsW hh0 hh1 hc hI ht hz
  go_enter Try.func57, Try.ntmps57
  go_wp2_with fail
  refine HWI.out.mono ?_
  rintro e w1 ⟨rfl, rfl⟩
  go_wp2_with fail
  refine HC.out.mono ?_
  rintro e w2 ⟨rfl, hb2⟩
  have hr := (hb2.block w.heap.size (by rw [HSW.out]; omega)).trans H0.out
  obtain ⟨r0, r1, r2, r3, r4, r5⟩ := reel_cells hr
  have hin2 := HIN.out.below hb2
  have HFR := hid (freshN_calls s.t s.g0 s.g1 s.nx ua uc s.es w2 hin2.un (by have := HINV.out.el; omega) hin2.rows)
  have HB2 := hid hb2
  clear HC HWI hb2 hr hin2 x0 x1 x2 x3 x4 x5 hW
  go_wp2_with fail
  refine HFR.out.mono ?_
  rintro e w3 ⟨uv, rfl, hre, hb3⟩
  obtain ⟨ea3, ec3, rfl, _, _, _⟩ := hre.open
  obtain ⟨V, hV⟩ : ∃ V, w3.alloc (.cells (newerC s.t s.g0 s.g1 s.nx (.slice ea3 s.es.length ec3)) 90) = V := ⟨_, rfl⟩
  have hbV : Below w3.heap.size w3 V := by rw [← hV]; exact (Below.refl _ _).alloc (Nat.le_refl _) _
  have hhV : V.heap[w3.heap.size]? = some (.cells (newerC s.t s.g0 s.g1 s.nx (.slice ea3 s.es.length ec3)) 90) := by rw [← hV]; exact heap_alloc_new _ _
  have hs3 : w1.heap.size ≤ w3.heap.size := Nat.le_trans HB2.out.size hb3.size
  have HBV : Hid (Below w1.heap.size w1 V) := (HB2.out.trans (hb3.mono HB2.out.size)).trans (hbV.mono hs3)
  have v5 : V.cell? ⟨w.heap.size, 5, none⟩ = some (.slice ta ls.length tc) := (reel_cells ((HBV.out.block w.heap.size (by rw [HSW.out]; omega)).trans H0.out)).2.2.2.2.2
  have hhQ : V.heap[w.heap.size + 1]? = _ := (HBV.out.block (w.heap.size + 1) (by rw [HSW.out]; omega)).trans H1.out
  obtain ⟨ea4, ec4, e1, hin4, hoff4⟩ := inW_rows HIN.out.fr HBORN.out (row_below hre hbV)
  cases e1
  have HST : Hid (MidN s ls m w3.heap.size (w.heap.size + 1) 0 V) := ⟨s, _, _, hhV, hin4, hoff4 _ _ hhV, hoff4 _ _ hhQ, HINV.out, by rw [List.drop_zero]⟩
  have hmc : (m : Int) ≤ (tc : Int) := by omega
  have hm0 : (0 : Int) ≤ (m : Int) := by omega
  clear HFR hre hb3 hbV hhV hhQ hin4 hoff4 r0 r1 r2 r3 r4 r5 HB2 HIN HINV
  go_wp2_with fail
  clear v5
  go_loopw [35] (fun i wr => ∃ k : Nat, k ≤ m ∧ i = .int .i64 k ∧ Hid (MidN s ls m w3.heap.size (w.heap.size + 1) k wr) ∧ Hid (Below w1.heap.size w1 wr)) (fun i _ => m - (intOf i).toNat)
  case atStart => exact ⟨0, Nat.zero_le _, rfl, HST, HBV⟩
  case round =>
    clear HST HBV hV
    obtain ⟨k, hk, rfl, HM, HBr⟩ := hrel
    obtain ⟨sk, ua', uc', hbox, hin, hoffB, hoffQ, hinv, hpl⟩ := HM.out
    obtain ⟨x0, x1, x2, x3, x4, _⟩ := five_cells hbox
    have hBr : w3.heap.size < wr.heap.size := (Array.getElem?_eq_some_iff.1 hbox).1
    have hq := (HBr.out.block (w.heap.size + 1) (by rw [HSW.out]; omega)).trans H1.out
    have hBQ : w.heap.size + 1 ≠ w3.heap.size := by have := HSW.out; omega
    by_cases hkm : k < m
    · have hkz : (k : Int) < (m : Int) := by omega
      obtain ⟨b, o, la, lc, rfl, hcell, hrecs⟩ := (HT.out.below HBr.out).at (i := k) (by omega)
      have HPN := hid (playON_next hm hkm hpl)
      have HMN : Hid (∀ w5 U uv base, outCN sk (ls.getD k []) = 0 → RowU base w5 uv (outSN sk (ls.getD k [])).es → Below wr.heap.size wr w5 → Below w5.heap.size w5 U → MidN s ls m w3.heap.size (w.heap.size + 1) (k + 1) (setFive U w3.heap.size (.int .i64 (outSN sk (ls.getD k [])).t) (.int .i64 (outSN sk (ls.getD k [])).g0) (.int .i64 (outSN sk (ls.getD k [])).g1) (.int .i64 (outSN sk (ls.getD k [])).nx) uv)) := fun w5 U uv base h0 h1 h3 h4 => by
        have h34 : Below wr.heap.size wr U := h3.trans (h4.mono h3.size)
        exact mid_nextN hm hkm hinv hpl h0 h1 h4 ((h34.block _ hBr).trans hbox) ((h34.block _ (Array.getElem?_eq_some_iff.1 hq).1).trans hq)
      have HSA := hid (stepN_all sk ua' la uc' lc (ls.getD k []) wr hin hrecs)
      have HBOX := hid hbox
      have HQ := hid hq
      generalize ls.getD k [] = l at hcell HPN HMN HSA
      clear hbox hq hin hoffB hoffQ hinv hpl hrecs HM
      go_wp2_with fail
      refine HSA.out.mono ?_
      rintro e w5 ⟨uv, rfl, h1, hb5⟩
      obtain ⟨ea5, ec5, rfl, _, _, _⟩ := h1.open
      obtain ⟨U, hU⟩ : ∃ U, w5.alloc (.cells (newerC (outSN sk l).t (outSN sk l).g0 (outSN sk l).g1 (outSN sk l).nx (.slice ea5 (outSN sk l).es.length ec5)) 90) = U := ⟨_, rfl⟩
      have hbU : Below w5.heap.size w5 U := by rw [← hU]; exact (Below.refl _ _).alloc (Nat.le_refl _) _
      have hhU : U.heap[w5.heap.size]? = some (.cells (newerC (outSN sk l).t (outSN sk l).g0 (outSN sk l).g1 (outSN sk l).nx (.slice ea5 (outSN sk l).es.length ec5)) 90) := by rw [← hU]; exact heap_alloc_new _ _
      have hb5U : Below wr.heap.size wr U := hb5.trans (hbU.mono hb5.size)
      have hboxU := (hb5U.block _ hBr).trans HBOX.out
      have hqU := (hb5U.block _ (Array.getElem?_eq_some_iff.1 HQ.out).1).trans HQ.out
      obtain ⟨u0, u1, u2, u3, u4, _⟩ := five_cells hhU
      obtain ⟨p0, p1, p2, p3, p4, gB⟩ := five_cells hboxU
      obtain ⟨q0, q1, q2, q3, q4, gQ⟩ := five_cells hqU
      have hBU : w3.heap.size ≠ w5.heap.size := by have := hb5.size; omega
      have HBU : Hid (Below w1.heap.size w1 U) := HBr.out.trans (hb5U.mono HBr.out.size)
      clear HSA x0 x1 x2 x3 x4 hcell
      by_cases hc0 : outCN sk l = 0
      · have HMU := hid (HMN.out w5 U _ _ hc0 h1 hb5 hbU)
        rw [hc0, errV_zero]
        clear h1 hb5 hbU hhU hb5U hboxU hqU HMN HPN hc0 q0 q1 q2 q3 q4 gQ
        go_wp2
        go_roundw
        case rel => exact ⟨k + 1, by omega, by go_num, HMU, below_five (b := w3.heap.size) HBU.out hs3⟩
        case measure => simp [intOf]; omega
      · have HPE := hid (HPN.out.2 hc0)
        have hev := errV_some hc0
        rw [hev]
        clear h1 hb5 hbU hhU hb5U hboxU hqU HMN HPN p0 p1 p2 p3 p4 gB
        have HEV := hid hev
        clear hev
        go_wp2
        refine bodyPost_ret (v := .tuple #[zeroNV, .iface 131 (.int .i64 (outCN sk l))]) (by simp [results, Try.results57, go_sem, q0, q1, q2, q3, q4]) rfl ?_
        rw [HPE.out]
        exact ansPN_zero (by rw [HEV.out]) (below_five (b := w.heap.size + 1) (HBW.out.trans (HBU.out.mono (by rw [HSW.out]; omega))) (Nat.le_succ _))
    · have hke : k = m := by omega
      subst hke
      have hkz : ¬ (k : Int) < (k : Int) := by omega
      have hpe : playON s (ls.take k) = (0, sk) := by
        rw [hpl, List.drop_of_length_le (by rw [List.length_take]; omega)]
        rfl
      obtain ⟨q0, q1, q2, q3, q4, gQ⟩ := five_cells hq
      have HIN := hid hin
      have HOQ := hid hoffQ
      have HPE := hid hpe
      have hBQ2 : w3.heap.size ≠ w.heap.size + 1 := fun e => hBQ e.symm
      clear hbox hin hoffB hoffQ hinv hpl hq HM hpe
      go_wp2
      refine bodyPost_ret (v := .tuple #[newerV sk.t sk.g0 sk.g1 sk.nx (.slice ua' sk.es.length uc'), .nilIface]) (by simp [results, Try.results57, go_sem, q0, q1, q2, q3, q4]) rfl ?_
      rw [HPE.out]
      have h6 := HIN.out.five (B := w.heap.size + 1) HOQ.out (a0 := .int .i64 sk.t) (a1 := .int .i64 sk.g0) (a2 := .int .i64 sk.g1) (a3 := .int .i64 sk.nx) (a4 := .slice ua' sk.es.length uc')
      exact ⟨ua', uc', rfl, h6.rows, below_five (b := w.heap.size + 1) (HBW.out.trans (HBr.out.mono (by rw [HSW.out]; omega))) (Nat.le_succ _)⟩
end
end Go.Proofs.Ytmnddahkbmlibaa
