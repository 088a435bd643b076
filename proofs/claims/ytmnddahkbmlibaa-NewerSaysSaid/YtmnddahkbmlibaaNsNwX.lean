/- Package newer of the program: Step. -/
import Derived.Test.YtmnddahkbmlibaaNsNwK
import Derived.Test.YtmnddahkbmlibaaNsWhN
import Derived.Test.YtmnddahkbmlibaaNsNwT
import Derived.Test.YtmnddahkbmlibaaNsNwU
import Derived.Test.YtmnddahkbmlibaaNsNwW
import Derived.Test.YtmnddahkbmlibaaNsBuN
namespace Go.Proofs.Ytmnddahkbmlibaa
open Go.RowKit Go.Maps
set_option maxRecDepth 100000 in
set_option maxHeartbeats 8000000 in
theorem stepN_check (s : St) (ua la : Option Addr) (uc lc : Nat) (l : List (List Int)) (w : World) (h : InW w s ua uc) (hc : checkN s.t s.g0 s.g1 s.nx s.es ≠ 0) :
    Calls Try.prog 52 #[newerV s.t s.g0 s.g1 s.nx (.slice ua s.es.length uc), .slice la l.length lc] w fun e w' => e = .returned (.tuple #[zeroNV, errV (checkN s.t s.g0 s.g1 s.nx s.es)]) ∧ Below w.heap.size w w' := by
  obtain ⟨W, hW⟩ : ∃ W, (w.alloc (.cells (newerC s.t s.g0 s.g1 s.nx (.slice ua s.es.length uc)) 90)).alloc (.cells (newerC 0 0 0 0 (.slice none 0 0)) 90) = W := ⟨_, rfl⟩
  obtain ⟨hbW, hsW, hh0, hh1⟩ := boxes5 hW
  obtain ⟨x0, x1, x2, x3, x4, _⟩ := five_cells hh0
  have HC := hid (checkNewer_calls s.t s.g0 s.g1 s.nx s.es ua uc W (h.rows.below hbW))
  have HBW := hid hbW
  have HSW := hid hsW
  have H1 := hid hh1
  rw [errV_some hc] at HC ⊢
  generalize checkN s.t s.g0 s.g1 s.nx s.es = n at HC
  clear h hbW hsW hh0 hh1 hc
  go_enter Try.func52, Try.ntmps52
  go_wp2_with fail
  refine HC.out.mono ?_
  rintro e w2 ⟨rfl, hb2⟩
  have hq := (hb2.block (w.heap.size + 1) (by rw [HSW.out]; omega)).trans H1.out
  obtain ⟨q0, q1, q2, q3, q4, f0⟩ := five_cells hq
  have HB2 : Hid (Below w.heap.size w w2) := HBW.out.trans (hb2.mono (by rw [HSW.out]; omega))
  clear HC hb2 hq x0 x1 x2 x3 x4 hW
  go_wp2
  exact bodyPost_ret (v := .tuple #[zeroNV, .iface 131 (.int .i64 n)]) (by simp [results, Try.results52, go_sem, q0, q1, q2, q3, q4]) rfl ⟨rfl, below_five (b := w.heap.size + 1) HB2.out (Nat.le_succ _)⟩
set_option maxRecDepth 100000 in
set_option maxHeartbeats 8000000 in
theorem stepN_many (s : St) (ua la : Option Addr) (uc lc : Nat) (l : List (List Int)) (w : World) (h : InW w s ua uc) (hc : checkN s.t s.g0 s.g1 s.nx s.es = 0) (hm : 8 < l.length ∨ s.t = 60) :
    Calls Try.prog 52 #[newerV s.t s.g0 s.g1 s.nx (.slice ua s.es.length uc), .slice la l.length lc] w fun e w' => e = .returned (.tuple #[zeroNV, errV 2]) ∧ Below w.heap.size w w' := by
  obtain ⟨W, hW⟩ : ∃ W, (w.alloc (.cells (newerC s.t s.g0 s.g1 s.nx (.slice ua s.es.length uc)) 90)).alloc (.cells (newerC 0 0 0 0 (.slice none 0 0)) 90) = W := ⟨_, rfl⟩
  obtain ⟨hbW, hsW, hh0, hh1⟩ := boxes5 hW
  obtain ⟨x0, x1, x2, x3, x4, _⟩ := five_cells hh0
  have HC := hid (checkNewer_calls s.t s.g0 s.g1 s.nx s.es ua uc W (h.rows.below hbW))
  have HBW := hid hbW
  have HSW := hid hsW
  have H0 := hid hh0
  have H1 := hid hh1
  rw [hc, errV_zero] at HC
  clear h hbW hsW hh0 hh1 hc
  have hways : (8 : Int) < (l.length : Int) ∨ (¬ (8 : Int) < (l.length : Int) ∧ (s.t == 60) = true) := by
    by_cases h8 : 8 < l.length
    · exact Or.inl (by omega)
    · exact Or.inr ⟨by omega, by rcases hm with x | x; exact absurd x h8; simpa using x⟩
  clear hm
  show Calls _ _ _ _ fun e w' => e = .returned (.tuple #[zeroNV, .iface 131 (.int .i64 2)]) ∧ Below w.heap.size w w'
  go_enter Try.func52, Try.ntmps52
  go_wp2_with fail
  refine HC.out.mono ?_
  rintro e w2 ⟨rfl, hb2⟩
  have hq := (hb2.block (w.heap.size + 1) (by rw [HSW.out]; omega)).trans H1.out
  have hr := (hb2.block w.heap.size (by rw [HSW.out]; omega)).trans H0.out
  obtain ⟨q0, q1, q2, q3, q4, f0⟩ := five_cells hq
  obtain ⟨r0, _, _, _, _, _⟩ := five_cells hr
  have HB2 : Hid (Below w.heap.size w w2) := HBW.out.trans (hb2.mono (by rw [HSW.out]; omega))
  clear HC hb2 hq hr x0 x1 x2 x3 x4 hW
  rcases hways with h8 | ⟨h8, h60⟩
  all_goals
    go_wp2
    exact bodyPost_ret (v := .tuple #[zeroNV, .iface 131 (.int .i64 2)]) (by simp [results, Try.results52, go_sem, q0, q1, q2, q3, q4]) rfl ⟨rfl, below_five (b := w.heap.size + 1) HB2.out (Nat.le_succ _)⟩
theorem uniq_alive {es : List (List Int)} {g : List Int → List Int} (h : es.Pairwise (fun a b => fld a 0 < fld b 0)) (hg : ∀ u, fld (g u) 0 = fld u 0) : Uniq ((es.map g).filter aliveB) := by
  refine uniq_of_up (List.Pairwise.filter _ ?_)
  rw [List.pairwise_map]
  exact h.imp fun {a b} hab => by rw [hg a, hg b]; exact hab
set_option maxRecDepth 100000 in
set_option maxHeartbeats 8000000 in
theorem stepN_good (s : St) (ua la : Option Addr) (uc lc : Nat) (l : List (List Int)) (w : World) (h : InW w s ua uc) (hl : Recs w la 6 l) (hc : checkN s.t s.g0 s.g1 s.nx s.es = 0) (h8 : l.length ≤ 8) (ht : s.t ≠ 60) :
    Calls Try.prog 52 #[newerV s.t s.g0 s.g1 s.nx (.slice ua s.es.length uc), .slice la l.length lc] w fun e w' => ∃ uv, e = .returned (.tuple #[newerV (stepN s l).t (stepN s l).g0 (stepN s l).g1 (stepN s l).nx uv, .nilIface]) ∧ RowU w.heap.size w' uv (stepN s l).es ∧ Below w.heap.size w w' := by
  obtain ⟨W, hW⟩ : ∃ W, (w.alloc (.cells (newerC s.t s.g0 s.g1 s.nx (.slice ua s.es.length uc)) 90)).alloc (.cells (newerC 0 0 0 0 (.slice none 0 0)) 90) = W := ⟨_, rfl⟩
  obtain ⟨hbW, hsW, hh0, hh1⟩ := boxes5 hW
  obtain ⟨x0, x1, x2, x3, x4, _⟩ := five_cells hh0
  have hin := h.below hbW
  have HC := hid (checkNewer_calls s.t s.g0 s.g1 s.nx s.es ua uc W hin.rows)
  have HIN := hid hin
  have HBW := hid hbW
  have HSW := hid hsW
  have H0 := hid hh0
  have H1 := hid hh1
  have HL := hid hl
  have HINV := hid (invN_of_check h.fr hc)
  have HBORN := hid h.born
  have HFREE := hid h.fr
  rw [hc, errV_zero] at HC
  clear h hin hbW hsW hh0 hh1 hc hl
  have h8z : ¬ (8 : Int) < (l.length : Int) := by omega
  have h60 : (s.t == 60) = false := by simpa using ht
  go_enter Try.func52, Try.ntmps52
  go_wp2_with fail
  refine HC.out.mono ?_
  rintro e w2 ⟨rfl, hb2⟩
  have hq := (hb2.block (w.heap.size + 1) (by rw [HSW.out]; omega)).trans H1.out
  have hr := (hb2.block w.heap.size (by rw [HSW.out]; omega)).trans H0.out
  obtain ⟨r0, r1, r2, r3, r4, _⟩ := five_cells hr
  have HB2 : Hid (Below w.heap.size w w2) := HBW.out.trans (hb2.mono (by rw [HSW.out]; omega))
  have HIN2 := hid (HIN.out.below hb2)
  have HQ2 := hid hq
  have hs2 : w.heap.size + 1 < w2.heap.size := (Array.getElem?_eq_some_iff.1 hq).1
  have hel := HINV.out.el
  have HBG := hid (beginN_calls s.t s.g0 s.g1 s.nx ua uc s.es w2 HIN2.out.un (by omega) HIN2.out.rows)
  clear HC hb2 hq hr x0 x1 x2 x3 x4 hW HIN H0 H1
  go_wp2_with fail
  refine HBG.out.mono ?_
  rintro e w3 ⟨p, uv0, B, rfl, hG3, hb3⟩
  have hse : (⟨s.t, s.g0, s.g1, s.nx, [], s.es, []⟩ : St) = s := by
    have e1 := HBORN.out
    have e2 := HFREE.out
    cases s
    simp only at e1 e2
    rw [e1, e2]
  rw [hse] at hG3
  have HG3 : Hid (GmNE w2.heap.size w3 p B (ordsN s (l.take 0)) (s.es.length : Nat)) := ⟨_, hG3⟩
  have HB3 := hid hb3
  clear HBG hG3 hb3 hse r0 r1 r2 r3 r4
  go_wp2
  go_loopw [30] (fun i wr => ∃ k : Nat, k ≤ l.length ∧ i = .int .i64 k ∧ Hid (GmNE w2.heap.size wr p B (ordsN s (l.take k)) (s.es.length : Nat)) ∧ Hid (Below w2.heap.size w2 wr)) (fun i _ => l.length - (intOf i).toNat)
  case atStart => exact ⟨0, Nat.zero_le _, rfl, HG3, HB3⟩
  case round =>
    clear HG3 HB3
    obtain ⟨k, hk, rfl, HGk, HBk⟩ := hrel
    have HIk := hid (invN_ords (l.take k) HINV.out)
    by_cases hkl : k < l.length
    · have hkz : (k : Int) < (l.length : Int) := by omega
      have hbk : Below w.heap.size w wr := HB2.out.trans (HBk.out.mono (by omega))
      obtain ⟨b, o, rfl, hc⟩ := (HL.out.below hbk).at hkl
      have l0 : wr.cell? ⟨b, o + k * 6, none⟩ = some (.int .i64 (fld (rec l k) 0)) := hc 0 (by omega)
      have l1 := hc 1 (by omega)
      have l2 := hc 2 (by omega)
      have l3 := hc 3 (by omega)
      have l4 := hc 4 (by omega)
      have l5 := hc 5 (by omega)
      have HNX := hid (ords_next s hkl)
      generalize rec l k = q at l0 l1 l2 l3 l4 l5 HNX
      clear hc hbk
      go_wp2_with fail
      have hb4 : Below wr.heap.size wr (wr.alloc (.cells (ordC q) 98)) := (Below.refl _ _).alloc (Nat.le_refl _) _
      have hsz := HBk.out.size
      have hGb : GmNE w2.heap.size (wr.alloc (.cells (ordC q) 98)) p B (ordsN s (l.take k)) (s.es.length : Nat) := by obtain ⟨uv, hx⟩ := HGk.out; exact ⟨uv, hx.below hb4⟩
      refine (orderN_calls w2.heap.size p B (ordsN s (l.take k)) (s.es.length : Nat) q _ HIk.out hGb).mono ?_
      rintro e w5 ⟨rfl, hG5, hb5⟩
      rw [← HNX.out] at hG5
      have HG5 := hid hG5
      have HB5 : Hid (Below w2.heap.size w2 w5) := (HBk.out.trans (hb4.mono (by omega))).trans hb5
      clear l0 l1 l2 l3 l4 l5 hb4 hb5 hG5 HGk HBk HNX hGb
      go_wp2
      go_roundw
      case rel => exact ⟨k + 1, by omega, by go_num, HG5, HB5⟩
      case measure => simp [intOf]; omega
    · have hkz : ¬ (k : Int) < (l.length : Int) := by omega
      have hlk : l.take k = l := List.take_of_length_le (by omega)
      rw [hlk] at HGk HIk
      have HOL := hid (oldN_ords l HINV.out (oldN_begin s.es) (oldLt_begin HINV.out)).1
      have HST : Hid (stepN s l = endO (ordsN s l) (idsE s.es)) := rfl
      obtain ⟨R, hR⟩ : ∃ R, stepN s l = R := ⟨_, rfl⟩
      have HRR := hid hR
      rw [hR] at HST
      clear hR
      generalize ordsN s l = S at HGk HIk HST HOL
      generalize idsE s.es = old at HST HOL
      have hM := invN_move HIk.out old
      have hA := invN_arrive hM old
      have hOM : OldN (moveSO S old).es s.es.length old := oldN_map HOL.out fun u => moveO_fld _ _ _ (by omega) (by omega) (by omega)
      have hOA : OldN (arriveSO (moveSO S old) old).es s.es.length old := oldN_map hOM fun u => arriveF_fld _ _ (by omega)
      have hwM : whoK (moveSO S old).es (moveSO S old).es.length = whoK S.es S.es.length := who_map fun u => moveO_fld _ _ _ (by omega) (by omega) (by omega)
      have hwA : whoK (arriveSO (moveSO S old) old).es (arriveSO (moveSO S old) old).es.length = whoK (moveSO S old).es (moveSO S old).es.length := who_map fun u => arriveF_fld _ _ (by omega)
      have HSO := hid (invN_strikeOk hA)
      have HIM := hid hM
      have HIA := hid hA
      have HOM := hid hOM
      have HOA := hid hOA
      have HWM := hid hwM
      have HWA := hid hwA
      have HUA : Hid (Uniq ((strikeSO (arriveSO (moveSO S old) old) old).es.filter aliveB)) := uniq_alive hA.up fun u => hurtO_fld _ _ _ (by omega) (by omega)
      have hsz := HBk.out.size
      obtain ⟨uvk, hGk⟩ := HGk.out
      have HGk' := hid hGk
      clear hM hA hlk hkl HL hOM hOA hwM hwA HGk hGk
      go_wp2_with fail
      refine (moveN_calls w2.heap.size p B uvk S s.es.length old wr HIk.out HOL.out HGk'.out).mono ?_
      rintro e w5 ⟨rfl, hG5, hb5⟩
      have HB5 : Hid (Below w2.heap.size w2 w5) := HBk.out.trans hb5
      rw [← HWM.out] at hG5
      have HG5 := hid hG5
      clear HGk' HBk hG5 hb5
      go_wp2_with fail
      refine (arriveN_calls w2.heap.size p B uvk (moveSO S old) _ s.es.length w5 (by have := HIM.out.el; omega) HOM.out.le HG5.out).mono ?_
      rintro e w6 ⟨rfl, hG6, hb6⟩
      have HB6 : Hid (Below w2.heap.size w2 w6) := HB5.out.trans hb6
      rw [arrive_old HOM.out, ← HWA.out] at hG6
      have HG6 : Hid (GmN w2.heap.size w6 p uvk B (arriveSO (moveSO S old) old) (whoK (arriveSO (moveSO S old) old).es (arriveSO (moveSO S old) old).es.length) (s.es.length : Nat)) := hG6
      clear HG5 HB5 hG6 hb6
      go_wp2_with fail
      refine (strikeN_calls w2.heap.size p B uvk (arriveSO (moveSO S old) old) s.es.length old w6 HSO.out HOA.out HG6.out).mono ?_
      rintro e w7 ⟨rfl, hG7, hb7⟩
      have HB7 : Hid (Below w2.heap.size w2 w7) := HB6.out.trans hb7
      have HG7 := hid hG7
      have hel7 : (strikeSO (arriveSO (moveSO S old) old) old).es.length ≤ 100 := by
        unfold strikeSO
        simp only [List.length_map]
        have := HIA.out.el
        omega
      clear HG6 HB6 hG7 hb7
      go_wp2_with fail
      refine (buryN_calls w2.heap.size p B uvk (strikeSO (arriveSO (moveSO S old) old) old) _ _ w7 hel7 HUA.out HG7.out).mono ?_
      rintro e w8 ⟨rfl, hG8, hb8⟩
      have HB8 : Hid (Below w2.heap.size w2 w8) := HB7.out.trans hb8
      obtain ⟨uv, hGm⟩ := hG8
      have hRS : R = { buryO (strikeSO (arriveSO (moveSO S old) old) old) with t := S.t + 1 } := HST.out
      have ht0 := HIk.out.t0
      have ht1 := HIk.out.t1
      have c0 : w8.cell? ⟨p, 0, none⟩ = some (.int .i64 S.t) := hGm.cell 0
      have f0 := hGm.frozen 0
      have hGn := hGm.pset 0 (.int .i64 (S.t + 1)) (s' := R) (old' := (s.es.length : Nat)) (by rw [hRS]; rfl) (by rw [hRS]; exact hGm.er)
      have HGn := hid hGn
      have hbp := hGm.bp
      have HBn : Hid (Below w2.heap.size w2 (w8.setCell ⟨p, 0, none⟩ (.int .i64 (S.t + 1)))) := HB8.out.setCell (p := ⟨p, 0, none⟩) hbp _
      have hwr : IntKind.i64.wrap (S.t + 1) = S.t + 1 := IntWalk.i64_in _ ⟨by omega, by omega⟩
      clear HG7 HB7 hb8 HB8 hGm hGn hRS HSO HIM HIA HOM HOA HWM HWA HUA
      go_upto_region 17 with fail
      generalize w8.setCell ⟨p, 0, none⟩ (.int .i64 (S.t + 1)) = Y at HGn HBn ⊢
      clear c0 f0 hwr
      obtain ⟨ea', ec', hev, _, _, _⟩ := HGn.out.er.open
      subst hev
      have hq := (HBn.out.block (w.heap.size + 1) hs2).trans HQ2.out
      obtain ⟨q0, q1, q2, q3, q4, qf⟩ := five_cells hq
      have g0 := qf 0
      have g1 := qf 1
      have g2 := qf 2
      have g3 := qf 3
      have g4 := qf 4
      have hpY := HGn.out.lt
      have hpb := HGn.out.bp
      have hne : p ≠ w.heap.size + 1 := by omega
      have k0 : Y.cell? ⟨p, 0, none⟩ = some (.int .i64 R.t) := HGn.out.cell 0
      have k1 : Y.cell? ⟨p, 1, none⟩ = some (.int .i64 R.g0) := HGn.out.cell 1
      have k2 : Y.cell? ⟨p, 2, none⟩ = some (.int .i64 R.g1) := HGn.out.cell 2
      have k3 : Y.cell? ⟨p, 3, none⟩ = some (.int .i64 R.nx) := HGn.out.cell 3
      have k4 : Y.cell? ⟨p, 4, none⟩ = some (.slice ea' R.es.length ec') := HGn.out.cell 4
      clear hq qf
      go_wp2
      refine bodyPost_ret (v := .tuple #[newerV R.t R.g0 R.g1 R.nx (.slice ea' R.es.length ec'), .nilIface]) (by simp [results, Try.results52, go_sem, q0, q1, q2, q3, q4]) rfl ?_
      show ∃ uv, _ ∧ RowU w.heap.size (setFive Y (w.heap.size + 1) (.int .i64 R.t) (.int .i64 R.g0) (.int .i64 R.g1) (.int .i64 R.nx) (.slice ea' R.es.length ec')) uv _ ∧ Below w.heap.size w (setFive Y (w.heap.size + 1) (.int .i64 R.t) (.int .i64 R.g0) (.int .i64 R.g1) (.int .i64 R.nx) (.slice ea' R.es.length ec'))
      rw [HRR.out]
      exact ⟨_, rfl, row_five HGn.out.er hs2 (by omega), below_five (HB2.out.trans (HBn.out.mono (by omega))) (Nat.le_succ _)⟩
end Go.Proofs.Ytmnddahkbmlibaa
