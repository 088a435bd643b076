/- The reference: a play of the newer game. -/
import Derived.Test.YtmnddahkbmlibaaNsRefQ
import Derived.Test.YtmnddahkbmlibaaNsPlNB
import Derived.Test.YtmnddahkbmlibaaNsNrD
namespace Go.Proofs.Ytmnddahkbmlibaa
open Go.RowKit Go.Maps
theorem stepNR_all (s : St) (ua la : Option Addr) (uc lc : Nat) (l : List (List Int)) (w : World) (h : InW w s ua uc) (hne : s.es.length ≤ 1000) (hl : Recs w la 6 l) :
    Calls Try.prog 53 #[newerV s.t s.g0 s.g1 s.nx (.slice ua s.es.length uc), .slice la l.length lc] w (AnsN intV s l w) := by
  by_cases hc : ckN s = 0
  · by_cases hm : 8 < l.length ∨ s.t = 60
    · refine (stepNR_many s ua la uc lc l w h hc hm).mono fun e w' ⟨he, hb⟩ => ansN_zero (c := 2) ?_ ?_ he hb
      · unfold outCN; rw [if_pos hc, if_pos hm]
      · unfold outSN; rw [if_neg (fun x => x.2 hm)]
    · have e1 : outCN s l = 0 := by unfold outCN; rw [if_pos hc, if_neg hm]
      have e2 : outSN s l = stepN s l := by unfold outSN; rw [if_pos ⟨hc, hm⟩]
      refine (stepNR_good s ua la uc lc l w h hl hc (by omega) (fun e => hm (Or.inr e))).mono fun e w' ⟨uv, he, h1, hb⟩ => ?_
      unfold AnsN
      rw [e1, e2]
      exact ⟨uv, he, h1, hb⟩
  · refine (stepNR_check s ua la uc lc l w h hne hc).mono fun e w' ⟨he, hb⟩ => ansN_zero (c := ckN s) ?_ ?_ he hb
    · unfold outCN; rw [if_neg hc]
    · unfold outSN; rw [if_neg (fun x => hc x.1)]
theorem below_fiveN {B b : Nat} {a w : World} {a0 a1 a2 a3 a4 : Value} (h : Below B a w) (hb : B ≤ b) : Below B a (((((w.setCell ⟨b, 0, none⟩ a0).setCell ⟨b, 1, none⟩ a1).setCell ⟨b, 2, none⟩ a2).setCell ⟨b, 3, none⟩ a3).setCell ⟨b, 4, none⟩ a4) := below_five h hb
section
variable (s : St) (ua ta : Option Addr) (uc tc : Nat) (ls : List (List (List Int))) (n : Int) (w : World)
set_option maxRecDepth 100000 in
set_option maxHeartbeats 8000000 in
theorem playNR_bound (hn : n < 0 ∨ (ls.length : Int) < n) :
    Calls Try.prog 58 #[reelV s.t s.g0 s.g1 s.nx (.slice ua s.es.length uc) (.slice ta ls.length tc), .int .i64 n] w (AnsPN intV (1, zeroS) w) := by
  obtain ⟨W, hW⟩ : ∃ W, (w.alloc (.cells (reelC s.t s.g0 s.g1 s.nx (.slice ua s.es.length uc) (.slice ta ls.length tc)) 94)).alloc (.cells (newerC 0 0 0 0 (.slice none 0 0)) 90) = W := ⟨_, rfl⟩
  obtain ⟨hbW, hsW, hh0, hh1⟩ := reel_boxes hW
  obtain ⟨_, _, _, _, _, x5⟩ := reel_cells hh0
  obtain ⟨q0, q1, q2, q3, q4, f0⟩ := five_cells hh1
  have HBW := hid hbW
  clear hbW hsW hh0 hh1
  have hw : n < 0 ∨ (¬ n < 0 ∧ (ls.length : Int) < n) := by omega
  clear hn
  rcases hw with h1 | ⟨h1, h2⟩
  all_goals
    go_enter Try.func58, Try.ntmps58
    go_wp2
    exact bodyPost_ret (v := .tuple #[zeroNV, intV 1]) (by simp [results, Try.results58, go_sem, q0, q1, q2, q3, q4, intV]) rfl (ansPN_zero rfl (below_five (b := w.heap.size + 1) HBW.out (Nat.le_succ _)))
set_option maxRecDepth 100000 in
set_option maxHeartbeats 8000000 in
theorem playNR_check (h : InW w s ua uc) (hne : s.es.length ≤ 1000) (h0 : 0 ≤ n) (hl : n ≤ (ls.length : Int)) (hc : ckN s ≠ 0) :
    Calls Try.prog 58 #[reelV s.t s.g0 s.g1 s.nx (.slice ua s.es.length uc) (.slice ta ls.length tc), .int .i64 n] w (AnsPN intV (ckN s, zeroS) w) := by
  obtain ⟨W, hW⟩ : ∃ W, (w.alloc (.cells (reelC s.t s.g0 s.g1 s.nx (.slice ua s.es.length uc) (.slice ta ls.length tc)) 94)).alloc (.cells (newerC 0 0 0 0 (.slice none 0 0)) 90) = W := ⟨_, rfl⟩
  obtain ⟨hbW, hsW, hh0, hh1⟩ := reel_boxes hW
  obtain ⟨x0, x1, x2, x3, x4, x5⟩ := reel_cells hh0
  have hin := h.below hbW
  have HO := hid (ofNewer_calls s.t s.g0 s.g1 s.nx ua uc s.es W hne hin.rows h.un)
  have HBW := hid hbW
  have HSW := hid hsW
  have H1 := hid hh1
  have HU := hid (st0_N h.fr h.born)
  have HF : Hid (faultR true s = (ckN s : Nat)) := faultN s h.fr
  have hm0 : 0 < ckN s := by omega
  generalize ckN s = m at HF hm0 ⊢
  have hmz : (0 : Int) < (m : Int) := by omega
  have z1 : ¬ n < 0 := by omega
  have z2 : ¬ (ls.length : Int) < n := by omega
  clear h hin hbW hsW hh0 hh1 hc h0 hl hm0
  go_enter Try.func58, Try.ntmps58
  go_wp2_with fail
  refine HO.out.mono ?_
  rintro e w1 ⟨p, rfl, hG1, hb1⟩
  rw [HU.out] at hG1
  have HC := hid (fault_calls W.heap.size p true s w1 hG1)
  rw [HF.out] at HC
  have HB1 := hid hb1
  clear HO hG1 hb1 x0 x1 x2 x3 x4 x5 hW
  go_wp2_with fail
  refine HC.out.mono ?_
  rintro e w2 ⟨rfl, hb2⟩
  have hb12 : Below W.heap.size W w2 := HB1.out.trans (hb2.mono HB1.out.size)
  have hq := (hb12.block (w.heap.size + 1) (by rw [HSW.out]; omega)).trans H1.out
  obtain ⟨q0, q1, q2, q3, q4, f0⟩ := five_cells hq
  have HB2 : Hid (Below w.heap.size w w2) := HBW.out.trans (hb12.mono (by rw [HSW.out]; omega))
  clear HC hb2 hq hb12 HB1
  go_wp2
  exact bodyPost_ret (v := .tuple #[zeroNV, .int .i64 m]) (by simp [results, Try.results58, go_sem, q0, q1, q2, q3, q4]) rfl (ansPN_zero rfl (below_five (b := w.heap.size + 1) HB2.out (Nat.le_succ _)))
set_option maxRecDepth 100000 in
set_option maxHeartbeats 8000000 in
theorem playNR_good (h : InW w s ua uc) (ht : TksN w ta ls) (hls : ls.length ≤ 1000) (m : Nat) (hm : m ≤ ls.length) (hc : ckN s = 0) :
    Calls Try.prog 58 #[reelV s.t s.g0 s.g1 s.nx (.slice ua s.es.length uc) (.slice ta ls.length tc), .int .i64 m] w (AnsPN intV (playON s (ls.take m)) w) := by
  obtain ⟨W, hW⟩ : ∃ W, (w.alloc (.cells (reelC s.t s.g0 s.g1 s.nx (.slice ua s.es.length uc) (.slice ta ls.length tc)) 94)).alloc (.cells (newerC 0 0 0 0 (.slice none 0 0)) 90) = W := ⟨_, rfl⟩
  obtain ⟨hbW, hsW, hh0, hh1⟩ := reel_boxes hW
  obtain ⟨x0, x1, x2, x3, x4, x5⟩ := reel_cells hh0
  have hin := h.below hbW
  have hI := invN_of_check h.fr hc
  have HO := hid (ofNewer_calls s.t s.g0 s.g1 s.nx ua uc s.es W (by have := hI.el; omega) hin.rows h.un)
  have HBW := hid hbW
  have HSW := hid hsW
  have H0 := hid hh0
  have H1 := hid hh1
  have HIN := hid hin
  have HINV := hid hI
  have HT := hid (ht.below hbW)
  have HU := hid (st0_N h.fr h.born)
  have HF : Hid (faultR true s = (ckN s : Nat)) := faultN s h.fr
  rw [hc] at HF
  have HOQ : Hid (OffN (w.heap.size + 1) s ua) := offN_old h (Nat.le_succ _)
  have z1 : ¬ (m : Int) < 0 := by omega
  have z2 : ¬ (ls.length : Int) < (m : Int) := by omega
  clear h hin hbW hsW hh0 hh1 hc hI ht
  go_enter Try.func58, Try.ntmps58
  go_wp2_with fail
  refine HO.out.mono ?_
  rintro e w1 ⟨p, rfl, hG1, hb1⟩
  rw [HU.out] at hG1
  have HC := hid (fault_calls W.heap.size p true s w1 hG1)
  rw [HF.out] at HC
  have HB1 := hid hb1
  clear HO hG1 hb1 x0 x1 x2 x3 x4 x5 hW
  go_wp2_with fail
  refine HC.out.mono ?_
  rintro e w3 ⟨rfl, hb2⟩
  have hb3 : Below W.heap.size W w3 := HB1.out.trans (hb2.mono HB1.out.size)
  have hr := (hb3.block w.heap.size (by rw [HSW.out]; omega)).trans H0.out
  obtain ⟨r0, r1, r2, r3, r4, r5⟩ := reel_cells hr
  have hin3 := HIN.out.below hb3
  obtain ⟨V, hV⟩ : ∃ V, w3.alloc (.cells (newerC s.t s.g0 s.g1 s.nx (.slice ua s.es.length uc)) 90) = V := ⟨_, rfl⟩
  have hbV : Below w3.heap.size w3 V := by rw [← hV]; exact (Below.refl _ _).alloc (Nat.le_refl _) _
  have hhV : V.heap[w3.heap.size]? = some (.cells (newerC s.t s.g0 s.g1 s.nx (.slice ua s.es.length uc)) 90) := by rw [← hV]; exact heap_alloc_new _ _
  have hs3 : W.heap.size ≤ w3.heap.size := hb3.size
  have HBV : Hid (Below W.heap.size W V) := hb3.trans (hbV.mono hs3)
  have HST : Hid (MidN s ls m w3.heap.size (w.heap.size + 1) 0 V) := ⟨s, _, _, hhV, hin3.below hbV, offN_old hin3 (Nat.le_refl _), HOQ.out, HINV.out, by rw [List.drop_zero]⟩
  clear HC hb2 hb3 hr hin3 hbV hhV HB1 HIN HINV HOQ
  go_wp2_with fail
  clear r0 r1 r2 r3 r4 r5
  go_loopw [8] (fun i wr => ∃ k : Nat, k ≤ m ∧ i = .int .i64 k ∧ Hid (MidN s ls m w3.heap.size (w.heap.size + 1) k wr) ∧ Hid (Below W.heap.size W wr)) (fun i _ => m - (intOf i).toNat)
  case atStart => exact ⟨0, Nat.zero_le _, rfl, HST, HBV⟩
  case round =>
    clear HST HBV hV
    obtain ⟨k, hk, rfl, HM, HBr⟩ := hrel
    obtain ⟨sk, ua', uc', hbox, hin, hoffB, hoffQ, hinv, hpl⟩ := HM.out
    obtain ⟨x0, x1, x2, x3, x4, _⟩ := five_cells hbox
    have hBr : w3.heap.size < wr.heap.size := (Array.getElem?_eq_some_iff.1 hbox).1
    have hq := (HBr.out.block (w.heap.size + 1) (by rw [HSW.out]; omega)).trans H1.out
    have hBQ : w.heap.size + 1 ≠ w3.heap.size := by have := HSW.out; omega
    by_cases hkm : k < m
    · have hkz : (k : Int) < (m : Int) := by omega
      have hkl : (k : Int) < (ls.length : Int) := by omega
      obtain ⟨b, o, la, lc, rfl, hcell, hrecs⟩ := (HT.out.below HBr.out).at (i := k) (by omega)
      have hbr : b < wr.heap.size := World.block_lt_of_cell? wr _ hcell
      have htp := (HBr.out.block w.heap.size (by rw [HSW.out]; omega)).trans H0.out
      have hwr : w.heap.size < wr.heap.size := (Array.getElem?_eq_some_iff.1 htp).1
      have r5 := (reel_cells htp).2.2.2.2.2
      have HPN := hid (playON_next hm hkm hpl)
      have HMN : Hid (∀ w5 U uv base, outCN sk (ls.getD k []) = 0 → RowU base w5 uv (outSN sk (ls.getD k [])).es → Below wr.heap.size wr w5 → Below w5.heap.size w5 U → MidN s ls m w3.heap.size (w.heap.size + 1) (k + 1) (setFive U w3.heap.size (.int .i64 (outSN sk (ls.getD k [])).t) (.int .i64 (outSN sk (ls.getD k [])).g0) (.int .i64 (outSN sk (ls.getD k [])).g1) (.int .i64 (outSN sk (ls.getD k [])).nx) uv)) := fun w5 U uv base h0 h1 h3 h4 => by
        have h34 : Below wr.heap.size wr U := h3.trans (h4.mono h3.size)
        exact mid_nextN hm hkm hinv hpl h0 h1 h4 ((h34.block _ hBr).trans hbox) ((h34.block _ (Array.getElem?_eq_some_iff.1 hq).1).trans hq)
      have HSA : Hid (∀ wx, Below wr.heap.size wr wx → Calls Try.prog 53 #[newerV sk.t sk.g0 sk.g1 sk.nx (.slice ua' sk.es.length uc'), .slice la (ls.getD k []).length lc] wx (AnsN intV sk (ls.getD k []) wx)) := fun wx hx => stepNR_all sk ua' la uc' lc (ls.getD k []) wx (hin.below hx) (by have := hinv.el; omega) (hrecs.below hx)
      have K0 : ∀ w', Below wr.heap.size wr w' → w'.cell? ⟨w3.heap.size, 0, none⟩ = some (.int .i64 sk.t) := fun w' h => (h.cell (p := ⟨w3.heap.size, 0, none⟩) hBr).trans x0
      have K1 : ∀ w', Below wr.heap.size wr w' → w'.cell? ⟨w3.heap.size, 1, none⟩ = some (.int .i64 sk.g0) := fun w' h => (h.cell (p := ⟨w3.heap.size, 1, none⟩) hBr).trans x1
      have K2 : ∀ w', Below wr.heap.size wr w' → w'.cell? ⟨w3.heap.size, 2, none⟩ = some (.int .i64 sk.g1) := fun w' h => (h.cell (p := ⟨w3.heap.size, 2, none⟩) hBr).trans x2
      have K3 : ∀ w', Below wr.heap.size wr w' → w'.cell? ⟨w3.heap.size, 3, none⟩ = some (.int .i64 sk.nx) := fun w' h => (h.cell (p := ⟨w3.heap.size, 3, none⟩) hBr).trans x3
      have K4 : ∀ w', Below wr.heap.size wr w' → w'.cell? ⟨w3.heap.size, 4, none⟩ = some (.slice ua' sk.es.length uc') := fun w' h => (h.cell (p := ⟨w3.heap.size, 4, none⟩) hBr).trans x4
      have K6 : ∀ w', Below wr.heap.size wr w' → w'.cell? ⟨w.heap.size, 5, none⟩ = some (.slice (some ⟨b, o, none⟩) ls.length tc) := fun w' h => (h.cell (p := ⟨w.heap.size, 5, none⟩) hwr).trans r5
      have K7 : ∀ w', Below wr.heap.size wr w' → w'.cell? ⟨b, o + k, none⟩ = some (.slice la (ls.getD k []).length lc) := fun w' h => (h.cell (p := ⟨b, o + k, none⟩) hbr).trans hcell
      have HBOX := hid hbox
      have HQ := hid hq
      generalize ls.getD k [] = l at K7 hcell HPN HMN HSA
      clear hbox hq hin hoffB hoffQ hinv hpl hrecs HM hcell r5 htp x0 x1 x2 x3 x4
      go_wp2_with fail
      go_cut [9, 10] (fun r c wx => ∃ g uv, r = .pointer (some ⟨g, 0, none⟩) ∧ c = .int .i64 (outCN sk l) ∧ Hid (wr.heap.size ≤ g ∧ wx.heap[g]? = some (.cells (newerC (outSN sk l).t (outSN sk l).g0 (outSN sk l).g1 (outSN sk l).nx uv) 90) ∧ RowU wr.heap.size wx uv (outSN sk l).es ∧ Below wr.heap.size wr wx))
      case first =>
        go_region_held3 (fun w' => Below wr.heap.size wr w') (first | with_reducible exact (Below.refl _ _).drew | with_reducible exact HB2.out | with_reducible exact Below.alloc HB2.out HB2.out.size _ | with_reducible exact below_fiveN HB2.out (Nat.le_refl _) | with_reducible exact Below.drew (Below.alloc (Below.refl _ _) (Nat.le_refl _) _))
          (first
            | (go_at_call 53; refine (HSA.out _ (by assumption)).mono ?_; rintro e w5 ⟨uv, rfl, h1, hb5⟩; have hq5 := zero_box hb5; obtain ⟨q0, q1, q2, q3, q4, gq⟩ := five_cells hq5; have HQ5 := hid hq5; obtain ⟨ea5, ec5, rfl, _, _, _⟩ := h1.open; have HB2 : Hid (Below wr.heap.size wr w5) := Below.trans (by assumption) (hb5.mono (Below.size (by assumption))); have HR1 := hid h1; clear h1 hb5 hq5)
            | (go_at_call 53; refine (HSA.out _ (by assumption)).mono ?_; rintro e w5 ⟨uv, rfl, h1, hb5⟩; obtain ⟨ea5, ec5, rfl, _, _, _⟩ := h1.open; have HB2 : Hid (Below wr.heap.size wr w5) := Below.trans (by assumption) (hb5.mono (Below.size (by assumption))); have HR1 := hid h1; clear h1 hb5))
        · go_wp2
          go_meet
          have hr1 : RowU wr.heap.size w5 _ (outSN sk l).es := HR1.out
          exact ⟨w5.heap.size, _, rfl, rfl, HB2.out.size, heap_alloc_new w5 _, World.ownsRow.alloc hr1 _, HB2.out.alloc HB2.out.size _⟩
        · go_wp2
          go_meet
          have hz : wr.heap.size < ((wr.alloc (.cells (newerC 0 0 0 0 (.slice none 0 0)) 90)).drew).heap.size := by simp [go_sem]
          exact ⟨wr.heap.size, _, rfl, rfl, Nat.le_refl _, heap_five_same HQ5.out, row_five (b := wr.heap.size) HR1.out hz (Nat.le_of_lt hz), below_five (b := wr.heap.size) HB2.out (Nat.le_refl _)⟩
      case rest =>
        obtain ⟨g, uv, rfl, rfl, HMM⟩ := hcut
        obtain ⟨hg, hhg, h1, hbc⟩ := HMM.out
        obtain ⟨ea5, ec5, rfl, _, _, _⟩ := h1.open
        have hboxU := (hbc.block _ hBr).trans HBOX.out
        have hqU := (hbc.block _ (Array.getElem?_eq_some_iff.1 HQ.out).1).trans HQ.out
        obtain ⟨u0, u1, u2, u3, u4, _⟩ := five_cells hhg
        obtain ⟨p0, p1, p2, p3, p4, gB⟩ := five_cells hboxU
        obtain ⟨q0, q1, q2, q3, q4, gQ⟩ := five_cells hqU
        have hBU : w3.heap.size ≠ g := by omega
        have HBU : Hid (Below W.heap.size W wc) := HBr.out.trans (hbc.mono HBr.out.size)
        clear HSA K0 K1 K2 K3 K4 K6 K7 HMM
        by_cases hc0 : outCN sk l = 0
        · have HMU := hid (HMN.out wc wc _ _ hc0 h1 hbc (Below.refl _ _))
          rw [hc0]
          clear h1 hhg hboxU hqU hbc HMN HPN hc0 q0 q1 q2 q3 q4 gQ
          go_wp2
          go_roundw
          case rel => exact ⟨k + 1, by omega, by go_num, HMU, below_five (b := w3.heap.size) HBU.out hs3⟩
          case measure => simp [intOf]; omega
        · have HPE := hid (HPN.out.2 hc0)
          have hcz : (0 : Int) < (outCN sk l : Int) := by omega
          clear h1 hhg hboxU hqU hbc HMN HPN p0 p1 p2 p3 p4 gB
          go_wp2
          refine bodyPost_ret (v := .tuple #[zeroNV, .int .i64 (outCN sk l)]) (by simp [results, Try.results58, go_sem, q0, q1, q2, q3, q4]) rfl ?_
          rw [HPE.out]
          exact ansPN_zero rfl (below_five (b := w.heap.size + 1) (HBW.out.trans (HBU.out.mono (by rw [HSW.out]; omega))) (Nat.le_succ _))
    · have hke : k = m := by omega
      subst hke
      have hkz : ¬ (k : Int) < (k : Int) := by omega
      have hpe : playON s (ls.take k) = (0, sk) := by
        rw [hpl, List.drop_of_length_le (by rw [List.length_take]; omega)]
        rfl
      obtain ⟨q0, q1, q2, q3, q4, gQ⟩ := five_cells hq
      have HIN := hid hin
      have HOQ := hid hoffQ
      have HPE := hid hpe
      have hBQ2 : w3.heap.size ≠ w.heap.size + 1 := fun e => hBQ e.symm
      clear hbox hin hoffB hoffQ hinv hpl hq HM hpe
      go_wp2
      refine bodyPost_ret (v := .tuple #[newerV sk.t sk.g0 sk.g1 sk.nx (.slice ua' sk.es.length uc'), .int .i64 0]) (by simp [results, Try.results58, go_sem, q0, q1, q2, q3, q4]) rfl ?_
      rw [HPE.out]
      have h6 := HIN.out.five (B := w.heap.size + 1) HOQ.out (a0 := .int .i64 sk.t) (a1 := .int .i64 sk.g0) (a2 := .int .i64 sk.g1) (a3 := .int .i64 sk.nx) (a4 := .slice ua' sk.es.length uc')
      exact ⟨ua', uc', rfl, h6.rows, below_five (b := w.heap.size + 1) (HBW.out.trans (HBr.out.mono (by rw [HSW.out]; omega))) (Nat.le_succ _)⟩
end
end Go.Proofs.Ytmnddahkbmlibaa
