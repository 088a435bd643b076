/- A tick: elder.Step. -/
import Derived.Test.YtgiieepfhohmhabTOkA
import Derived.Test.YtgiieepfhohmhabTSw
import Derived.Test.YtgiieepfhohmhabTGqA
namespace Go.Proofs.Ytgiieepfhohmhab
open Go.RowKit Go.Maps
abbrev zeroE : Value := elderV 0 0 0 0 (.slice none 0 0) (.slice none 0 0)
def stepS (s : St) (l : List (List Int)) : St := endS (cmdsS s l) (wasF (idsE s.es))
structure InE (w : World) (s : St) (fa ea : Option Addr) (fc ec : Nat) : Prop where
  fn : fa = none → fc = 0
  en : ea = none → ec = 0
  cap : s.es.length ≤ ec
  rows : Recs w ea 10 s.es
  nums : Nums w fa s.free
  wf : ∀ i, i < s.free.length → (Lit.int .i64 (fld s.free i)).wf = true
  born : s.born = []
theorem InE.below {w w' : World} {s : St} {fa ea : Option Addr} {fc ec : Nat} (h : InE w s fa ea fc ec) (hb : Below w.heap.size w w') : InE w' s fa ea fc ec :=
  ⟨h.fn, h.en, h.cap, h.rows.below hb, h.nums.below hb, h.wf, h.born⟩
theorem grown_drewd {w w' : World} {r : Option Nat} (h : w.grownBy w' r) : w.grownBy w'.drew r := ⟨h.os, h.tape, h.output, h.size, h.block⟩
theorem errV_zero : errV 0 = .nilIface := rfl
theorem errV_some {c : Nat} (h : c ≠ 0) : errV c = .iface 65 (.int .i64 c) := by unfold errV; rw [if_neg h]
theorem step_boxes {w W : World} {s : St} {fv ev : Value} (hW : (w.alloc (.cells #[.int .i64 s.t, .int .i64 s.g0, .int .i64 s.g1, .int .i64 s.nx, fv, ev] 36)).alloc (.cells #[.int .i64 0, .int .i64 0, .int .i64 0, .int .i64 0, .slice none 0 0, .slice none 0 0] 36) = W) :
    Below w.heap.size w W ∧ W.heap.size = w.heap.size + 2 ∧ W.heap[w.heap.size]? = some (.cells #[.int .i64 s.t, .int .i64 s.g0, .int .i64 s.g1, .int .i64 s.nx, fv, ev] 36) ∧ W.heap[w.heap.size + 1]? = some (.cells #[.int .i64 0, .int .i64 0, .int .i64 0, .int .i64 0, .slice none 0 0, .slice none 0 0] 36) := by
  refine ⟨?_, ?_, ?_, ?_⟩
  · rw [← hW]; exact ((Below.refl _ w).alloc (Nat.le_refl _) _).alloc (by simp [go_sem]) _
  · rw [← hW]; simp [go_sem]
  · rw [← hW, heap_alloc_old _ _ (by simp [go_sem])]
    exact heap_alloc_new w _
  · have e : w.heap.size + 1 = (w.alloc (.cells #[.int .i64 s.t, .int .i64 s.g0, .int .i64 s.g1, .int .i64 s.nx, fv, ev] 36)).heap.size := by simp [go_sem]
    rw [← hW, e]
    exact heap_alloc_new _ _
theorem elder_cells {w : World} {b : Nat} {a0 a1 a2 a3 a4 a5 : Value} (h : w.heap[b]? = some (.cells #[a0, a1, a2, a3, a4, a5] 36)) :
    w.cell? ⟨b, 0, none⟩ = some a0 ∧ w.cell? ⟨b, 1, none⟩ = some a1 ∧ w.cell? ⟨b, 2, none⟩ = some a2 ∧ w.cell? ⟨b, 3, none⟩ = some a3 ∧ w.cell? ⟨b, 4, none⟩ = some a4 ∧ w.cell? ⟨b, 5, none⟩ = some a5 :=
  ⟨cell_of_row w b 0 _ _ _ h, cell_of_row w b 1 _ _ _ h, cell_of_row w b 2 _ _ _ h, cell_of_row w b 3 _ _ _ h, cell_of_row w b 4 _ _ _ h, cell_of_row w b 5 _ _ _ h⟩
def setSix (w : World) (b : Nat) (a0 a1 a2 a3 a4 a5 : Value) : World := (((((w.setCell ⟨b, 0, none⟩ a0).setCell ⟨b, 1, none⟩ a1).setCell ⟨b, 2, none⟩ a2).setCell ⟨b, 3, none⟩ a3).setCell ⟨b, 4, none⟩ a4).setCell ⟨b, 5, none⟩ a5
theorem below_six {B b : Nat} {a w : World} {a0 a1 a2 a3 a4 a5 : Value} (h : Below B a w) (hb : B ≤ b) : Below B a (setSix w b a0 a1 a2 a3 a4 a5) :=
  (((((h.setCell (p := ⟨b, 0, none⟩) hb _).setCell (p := ⟨b, 1, none⟩) hb _).setCell (p := ⟨b, 2, none⟩) hb _).setCell (p := ⟨b, 3, none⟩) hb _).setCell (p := ⟨b, 4, none⟩) hb _).setCell (p := ⟨b, 5, none⟩) hb _
theorem heap_six {w : World} {b k : Nat} {a0 a1 a2 a3 a4 a5 : Value} (h : k ≠ b) : (setSix w b a0 a1 a2 a3 a4 a5).heap[k]? = w.heap[k]? := by
  unfold setSix
  rw [heap_setCell_other _ ⟨b, 5, none⟩ k _ (fun e => h e), heap_setCell_other _ ⟨b, 4, none⟩ k _ (fun e => h e), heap_setCell_other _ ⟨b, 3, none⟩ k _ (fun e => h e), heap_setCell_other _ ⟨b, 2, none⟩ k _ (fun e => h e), heap_setCell_other _ ⟨b, 1, none⟩ k _ (fun e => h e), heap_setCell_other _ ⟨b, 0, none⟩ k _ (fun e => h e)]
theorem row_six {w : World} {base base' b : Nat} {e : TypeId} {size : Nat} {v : Value} {n : Nat} {xs : List Value} {a0 a1 a2 a3 a4 a5 : Value} (h : w.ownsRow base e size v n xs) (hb : b < base) (hbb : base' ≤ base) : (setSix w b a0 a1 a2 a3 a4 a5).drew.ownsRow base' e size v n xs :=
  own_mono (World.ownsRow.drew (row_other (w' := setSix w b a0 a1 a2 a3 a4 a5) h (fun g hg => heap_six (fun x => by have := (World.ownsRow.lt h g hg).1; omega)))) hbb
theorem GmE.mono {base base' : Nat} {w : World} {p : Nat} {s : St} {was : Int → Int} (h : GmE base w p s was) (hb : base' ≤ base) : GmE base' w p s was := by
  obtain ⟨ev, fv, bv, B, h⟩ := h
  exact ⟨ev, fv, bv, B, h.hp, own_mono h.er hb, own_mono h.fr hb, own_mono h.br hb, h.ct, Nat.le_trans hb h.bp, Nat.le_trans hb h.bB, h.fb⟩
theorem wasF_pos (l : List Int) (z : Int) : 0 ≤ wasF l z := by
  unfold wasF
  split <;> omega
theorem moved_box {w W : World} {s : St} {fv ev : Value} (hW : w.alloc (.cells #[.int .i64 s.t, .int .i64 s.g0, .int .i64 s.g1, .int .i64 s.nx, fv, ev] 36) = W) :
    Below w.heap.size w W ∧ W.heap.size = w.heap.size + 1 ∧ W.heap[w.heap.size]? = some (.cells #[.int .i64 s.t, .int .i64 s.g0, .int .i64 s.g1, .int .i64 s.nx, fv, ev] 36) := by
  refine ⟨?_, ?_, ?_⟩
  · rw [← hW]; exact (Below.refl _ w).alloc (Nat.le_refl _) _
  · rw [← hW]; simp [go_sem]
  · rw [← hW]; exact heap_alloc_new w _
set_option maxRecDepth 100000 in
set_option maxHeartbeats 8000000 in
theorem moved_check (s : St) (fa ea la : Option Addr) (fc ec lc : Nat) (l : List (List Int)) (w : World) (h : InE w s fa ea fc ec) (hc : checkE s.t s.g0 s.g1 s.nx s.free s.es ≠ 0) :
    Calls Try.prog 41 #[elderV s.t s.g0 s.g1 s.nx (.slice fa s.free.length fc) (.slice ea s.es.length ec), .slice la l.length lc] w fun e w' => e = .returned (.tuple #[.pointer none, errV (checkE s.t s.g0 s.g1 s.nx s.free s.es)]) ∧ Below w.heap.size w w' := by
  obtain ⟨W, hW⟩ : ∃ W, w.alloc (.cells #[.int .i64 s.t, .int .i64 s.g0, .int .i64 s.g1, .int .i64 s.nx, .slice fa s.free.length fc, .slice ea s.es.length ec] 36) = W := ⟨_, rfl⟩
  obtain ⟨hbW, hsW, hh0⟩ := moved_box hW
  obtain ⟨x0, x1, x2, x3, x4, x5⟩ := elder_cells hh0
  have hin := h.below hbW
  have HC := hid (check_calls s.t s.g0 s.g1 s.nx s.free fa ea fc ec s.es W h.cap hin.rows hin.nums h.wf)
  have HBW := hid hbW
  have HSW := hid hsW
  rw [errV_some hc] at HC ⊢
  generalize checkE s.t s.g0 s.g1 s.nx s.free s.es = n at HC
  clear h hin hbW hsW hh0 hc
  go_enter Try.func41, Try.ntmps41
  go_wp2_with fail
  refine HC.out.mono ?_
  rintro e w2 ⟨rfl, hb2⟩
  have HB2 : Hid (Below w.heap.size w w2) := HBW.out.trans (hb2.mono (by rw [HSW.out]; omega))
  clear HC hb2 x0 x1 x2 x3 x4 x5 hW
  go_wp2
  go_ret2
  exact ⟨rfl, HB2.out⟩
set_option maxRecDepth 100000 in
set_option maxHeartbeats 8000000 in
theorem moved_many (s : St) (fa ea la : Option Addr) (fc ec lc : Nat) (l : List (List Int)) (w : World) (h : InE w s fa ea fc ec) (hc : checkE s.t s.g0 s.g1 s.nx s.free s.es = 0) (hm : 8 < l.length ∨ s.t = 60) :
    Calls Try.prog 41 #[elderV s.t s.g0 s.g1 s.nx (.slice fa s.free.length fc) (.slice ea s.es.length ec), .slice la l.length lc] w fun e w' => e = .returned (.tuple #[.pointer none, errV 2]) ∧ Below w.heap.size w w' := by
  obtain ⟨W, hW⟩ : ∃ W, w.alloc (.cells #[.int .i64 s.t, .int .i64 s.g0, .int .i64 s.g1, .int .i64 s.nx, .slice fa s.free.length fc, .slice ea s.es.length ec] 36) = W := ⟨_, rfl⟩
  obtain ⟨hbW, hsW, hh0⟩ := moved_box hW
  obtain ⟨x0, x1, x2, x3, x4, x5⟩ := elder_cells hh0
  have hin := h.below hbW
  have HC := hid (check_calls s.t s.g0 s.g1 s.nx s.free fa ea fc ec s.es W h.cap hin.rows hin.nums h.wf)
  have HBW := hid hbW
  have HSW := hid hsW
  have H0 := hid hh0
  rw [hc, errV_zero] at HC
  clear h hin hbW hsW hh0 hc
  have hways : (8 : Int) < (l.length : Int) ∨ (¬ (8 : Int) < (l.length : Int) ∧ (s.t == 60) = true) := by
    by_cases h8 : 8 < l.length
    · exact Or.inl (by omega)
    · exact Or.inr ⟨by omega, by rcases hm with x | x; exact absurd x h8; simpa using x⟩
  clear hm
  show Calls _ _ _ _ fun e w' => e = .returned (.tuple #[.pointer none, .iface 65 (.int .i64 2)]) ∧ Below w.heap.size w w'
  go_enter Try.func41, Try.ntmps41
  go_wp2_with fail
  refine HC.out.mono ?_
  rintro e w2 ⟨rfl, hb2⟩
  have hr := (hb2.block w.heap.size (by rw [HSW.out]; omega)).trans H0.out
  obtain ⟨r0, _, _, _, _, _⟩ := elder_cells hr
  have HB2 : Hid (Below w.heap.size w w2) := HBW.out.trans (hb2.mono (by rw [HSW.out]; omega))
  clear HC hb2 hr x0 x1 x2 x3 x4 x5 hW
  rcases hways with h8 | ⟨h8, h60⟩
  all_goals
    go_wp2
    go_ret2
    exact ⟨rfl, HB2.out⟩
set_option maxRecDepth 100000 in
set_option maxHeartbeats 8000000 in
theorem moved_good (s : St) (fa ea la : Option Addr) (fc ec lc : Nat) (l : List (List Int)) (w : World) (h : InE w s fa ea fc ec) (hl : Recs w la 7 l) (hc : checkE s.t s.g0 s.g1 s.nx s.free s.es = 0) (h8 : l.length ≤ 8) (ht : s.t ≠ 60) :
    Calls Try.prog 41 #[elderV s.t s.g0 s.g1 s.nx (.slice fa s.free.length fc) (.slice ea s.es.length ec), .slice la l.length lc] w fun e w' => ∃ p, e = .returned (.tuple #[.pointer (some ⟨p, 0, none⟩), .nilIface]) ∧ GmE w.heap.size w' p (arriveS (moveS (cmdsS s l) (wasF (idsE s.es))) (wasF (idsE s.es))) (wasF (idsE s.es)) ∧ Below w.heap.size w w' := by
  obtain ⟨W, hW⟩ : ∃ W, w.alloc (.cells #[.int .i64 s.t, .int .i64 s.g0, .int .i64 s.g1, .int .i64 s.nx, .slice fa s.free.length fc, .slice ea s.es.length ec] 36) = W := ⟨_, rfl⟩
  obtain ⟨hbW, hsW, hh0⟩ := moved_box hW
  obtain ⟨x0, x1, x2, x3, x4, x5⟩ := elder_cells hh0
  have hin := h.below hbW
  have HC := hid (check_calls s.t s.g0 s.g1 s.nx s.free fa ea fc ec s.es W h.cap hin.rows hin.nums h.wf)
  have HIN := hid hin
  have HBW := hid hbW
  have HSW := hid hsW
  have H0 := hid hh0
  have HL := hid hl
  have HINV := hid (inv_of_check hc)
  have HBORN := hid h.born
  rw [hc, errV_zero] at HC
  clear h hin hbW hsW hh0 hc hl
  have h8z : ¬ (8 : Int) < (l.length : Int) := by omega
  have h60 : (s.t == 60) = false := by simpa using ht
  go_enter Try.func41, Try.ntmps41
  go_wp2_with fail
  refine HC.out.mono ?_
  rintro e w2 ⟨rfl, hb2⟩
  have hr := (hb2.block w.heap.size (by rw [HSW.out]; omega)).trans H0.out
  obtain ⟨r0, r1, r2, r3, r4, r5⟩ := elder_cells hr
  have HB2 : Hid (Below w.heap.size w w2) := HBW.out.trans (hb2.mono (by rw [HSW.out]; omega))
  have HIN2 := hid (HIN.out.below hb2)
  have hs2 : w.heap.size < w2.heap.size := (Array.getElem?_eq_some_iff.1 hr).1
  have hel := HINV.out.el
  have hfl := HINV.out.fl
  have HBG := hid (begin_calls s.t s.g0 s.g1 s.nx s.free fa ea fc ec s.es w2 HIN2.out.fn HIN2.out.en (by omega) (by omega) HIN2.out.rows HIN2.out.nums (fun i hi => invM_wf HINV.out.mem (rec_mem hi)))
  clear HC hb2 hr x0 x1 x2 x3 x4 x5 hW HIN H0
  go_wp2_with fail
  refine HBG.out.mono ?_
  rintro e w3 ⟨p, ev0, fv0, B0, rfl, hG3, hb3⟩
  have hse : (⟨s.t, s.g0, s.g1, s.nx, s.free, s.es, []⟩ : St) = s := by
    have := HBORN.out
    cases s
    simp only at this
    rw [this]
  rw [hse] at hG3
  have HG3 : Hid (GmE w2.heap.size w3 p (cmdsS s (l.take 0)) (wasF (idsE s.es))) := ⟨_, _, _, _, hG3⟩
  have HB3 := hid hb3
  clear HBG hG3 hb3 hse r0 r1 r2 r3 r4 r5
  go_wp2
  go_loopw [28] (fun i wr => ∃ k : Nat, k ≤ l.length ∧ i = .int .i64 k ∧ Hid (GmE w2.heap.size wr p (cmdsS s (l.take k)) (wasF (idsE s.es))) ∧ Hid (Below w2.heap.size w2 wr)) (fun i _ => l.length - (intOf i).toNat)
  case atStart => exact ⟨0, Nat.zero_le _, rfl, HG3, HB3⟩
  case round =>
    clear HG3 HB3
    obtain ⟨k, hk, rfl, HGk, HBk⟩ := hrel
    have HIk := hid (cmds_inv HINV.out HBORN.out (l.take k))
    by_cases hkl : k < l.length
    · have hkz : (k : Int) < (l.length : Int) := by omega
      have hbk : Below w.heap.size w wr := HB2.out.trans (HBk.out.mono (by omega))
      obtain ⟨b, o, rfl, hc⟩ := (HL.out.below hbk).at hkl
      have l0 : wr.cell? ⟨b, o + k * 7, none⟩ = some (.int .i64 (fld (rec l k) 0)) := hc 0 (by omega)
      have l1 := hc 1 (by omega)
      have l2 := hc 2 (by omega)
      have l3 := hc 3 (by omega)
      have l4 := hc 4 (by omega)
      have l5 := hc 5 (by omega)
      have l6 := hc 6 (by omega)
      have HNX := hid (cmds_next s hkl)
      have HBO := hid (cmds_born s l k)
      rw [HBORN.out] at HBO
      generalize rec l k = q at l0 l1 l2 l3 l4 l5 l6 HNX
      clear hc hbk
      go_wp2_with fail
      have hb4 : Below wr.heap.size wr (wr.alloc (.cells (cmdC q) 51)) := (Below.refl _ _).alloc (Nat.le_refl _) _
      have hI := HIk.out
      have hsz := HBk.out.size
      refine (command_calls w2.heap.size p (cmdsS s (l.take k)) (wasF (idsE s.es)) q _ (by have := hI.el; omega) (by have := hI.fl; omega) (by have := HBO.out; simp at this; omega) (by have := hI.n0; omega) (by have := hI.a0; omega) (by have := hI.a1; omega) (inv_okU hI) (HGk.out.below hb4)).mono ?_
      rintro e w5 ⟨rfl, hG5, hb5⟩
      rw [← HNX.out] at hG5
      have HG5 := hid hG5
      have HB5 : Hid (Below w2.heap.size w2 w5) := (HBk.out.trans (hb4.mono (by omega))).trans hb5
      clear l0 l1 l2 l3 l4 l5 l6 hb4 hb5 hG5 hI HGk HBk HNX
      go_wp2
      go_roundw
      case rel => exact ⟨k + 1, by omega, by go_num, HG5, HB5⟩
      case measure => simp [intOf]; omega
    · have hkz : ¬ (k : Int) < (l.length : Int) := by omega
      have hlk : l.take k = l := List.take_of_length_le (by omega)
      rw [hlk] at HGk HIk
      have HT : Hid ((cmdsS s l).t = s.t) := cmdsS_t l s
      have HWP : Hid (∀ z, 0 ≤ wasF (idsE s.es) z) := wasF_pos _
      obtain ⟨S, hS⟩ : ∃ S, cmdsS s l = S := ⟨_, rfl⟩
      obtain ⟨was, hwas⟩ : ∃ f, wasF (idsE s.es) = f := ⟨_, rfl⟩
      have HSE := hid hS
      have HWE := hid hwas
      rw [hS] at HGk HIk HT
      rw [hwas] at HGk HWP
      clear hS hwas
      have hM := inv_move HIk.out.mem was
      have hA := inv_arrive hM was
      have HMO := hid (invM_moveOk HIk.out.mem)
      have HIM := hid hM
      have hsz := HBk.out.size
      clear hM hA hlk hkl HL
      go_wp2_with fail
      refine (move_calls w2.heap.size p S was wr HMO.out HWP.out HGk.out).mono ?_
      rintro e w5 ⟨rfl, hG5, hb5⟩
      have HB5 : Hid (Below w2.heap.size w2 w5) := HBk.out.trans hb5
      have HG5 := hid hG5
      clear HGk HBk hG5 hb5 HMO
      go_wp2_with fail
      refine (arrive_calls w2.heap.size p (moveS S was) was w5 (by have := HIM.out.el; omega) (fun i hi => invM_wf HIM.out (rec_mem hi)) HG5.out).mono ?_
      rintro e w6 ⟨rfl, hG6, hb6⟩
      have HB6 : Hid (Below w2.heap.size w2 w6) := HB5.out.trans hb6
      have HG6 := hid hG6
      clear HG5 HB5 hG6 hb6
      go_wp2
      go_ret2
      exact ⟨p, rfl, by rw [HSE.out, HWE.out]; exact HG6.out.mono (show w.heap.size ≤ w2.heap.size by omega), HB2.out.trans (HB6.out.mono (show w.heap.size ≤ w2.heap.size by omega))⟩
set_option maxRecDepth 100000 in
set_option maxHeartbeats 8000000 in
theorem step_check (s : St) (fa ea la : Option Addr) (fc ec lc : Nat) (l : List (List Int)) (w : World) (h : InE w s fa ea fc ec) (hc : checkE s.t s.g0 s.g1 s.nx s.free s.es ≠ 0) :
    Calls Try.prog 28 #[elderV s.t s.g0 s.g1 s.nx (.slice fa s.free.length fc) (.slice ea s.es.length ec), .slice la l.length lc] w fun e w' => e = .returned (.tuple #[zeroE, .slice none 0 0, errV (checkE s.t s.g0 s.g1 s.nx s.free s.es)]) ∧ Below w.heap.size w w' := by
  obtain ⟨W, hW⟩ : ∃ W, (w.alloc (.cells #[.int .i64 s.t, .int .i64 s.g0, .int .i64 s.g1, .int .i64 s.nx, .slice fa s.free.length fc, .slice ea s.es.length ec] 36)).alloc (.cells #[.int .i64 0, .int .i64 0, .int .i64 0, .int .i64 0, .slice none 0 0, .slice none 0 0] 36) = W := ⟨_, rfl⟩
  obtain ⟨hbW, hsW, hh0, hh1⟩ := step_boxes hW
  obtain ⟨x0, x1, x2, x3, x4, x5⟩ := elder_cells hh0
  have hin := h.below hbW
  have HC := hid (moved_check s fa ea la fc ec lc l W hin hc)
  have HBW := hid hbW
  have HSW := hid hsW
  have H1 := hid hh1
  rw [errV_some hc] at HC ⊢
  generalize checkE s.t s.g0 s.g1 s.nx s.free s.es = n at HC
  clear h hin hbW hsW hh0 hh1 hc
  go_enter Try.func28, Try.ntmps28
  go_wp2_with fail
  refine HC.out.mono ?_
  rintro e w2 ⟨rfl, hb2⟩
  have hq := (hb2.block (w.heap.size + 1) (by rw [HSW.out]; omega)).trans H1.out
  obtain ⟨q0, q1, q2, q3, q4, q5⟩ := elder_cells hq
  have f0 := fun j => frozen_of_row w2 (w.heap.size + 1) j _ _ hq
  have HB2 : Hid (Below w.heap.size w w2) := HBW.out.trans (hb2.mono (by rw [HSW.out]; omega))
  clear HC hb2 hq x0 x1 x2 x3 x4 x5 hW
  go_wp2
  exact bodyPost_ret (v := .tuple #[zeroE, .slice none 0 0, .iface 65 (.int .i64 n)]) (by simp [results, Try.results28, go_sem, q0, q1, q2, q3, q4, q5]) rfl ⟨rfl, below_six (b := w.heap.size + 1) HB2.out (Nat.le_succ _)⟩
set_option maxRecDepth 100000 in
set_option maxHeartbeats 8000000 in
theorem step_many (s : St) (fa ea la : Option Addr) (fc ec lc : Nat) (l : List (List Int)) (w : World) (h : InE w s fa ea fc ec) (hc : checkE s.t s.g0 s.g1 s.nx s.free s.es = 0) (hm : 8 < l.length ∨ s.t = 60) :
    Calls Try.prog 28 #[elderV s.t s.g0 s.g1 s.nx (.slice fa s.free.length fc) (.slice ea s.es.length ec), .slice la l.length lc] w fun e w' => e = .returned (.tuple #[zeroE, .slice none 0 0, errV 2]) ∧ Below w.heap.size w w' := by
  obtain ⟨W, hW⟩ : ∃ W, (w.alloc (.cells #[.int .i64 s.t, .int .i64 s.g0, .int .i64 s.g1, .int .i64 s.nx, .slice fa s.free.length fc, .slice ea s.es.length ec] 36)).alloc (.cells #[.int .i64 0, .int .i64 0, .int .i64 0, .int .i64 0, .slice none 0 0, .slice none 0 0] 36) = W := ⟨_, rfl⟩
  obtain ⟨hbW, hsW, hh0, hh1⟩ := step_boxes hW
  obtain ⟨x0, x1, x2, x3, x4, x5⟩ := elder_cells hh0
  have hin := h.below hbW
  have HC := hid (moved_many s fa ea la fc ec lc l W hin hc hm)
  have HBW := hid hbW
  have HSW := hid hsW
  have H1 := hid hh1
  rw [errV_some (show (2 : Nat) ≠ 0 by decide)] at HC ⊢
  clear h hin hbW hsW hh0 hh1 hc hm
  go_enter Try.func28, Try.ntmps28
  go_wp2_with fail
  refine HC.out.mono ?_
  rintro e w2 ⟨rfl, hb2⟩
  have hq := (hb2.block (w.heap.size + 1) (by rw [HSW.out]; omega)).trans H1.out
  obtain ⟨q0, q1, q2, q3, q4, q5⟩ := elder_cells hq
  have f0 := fun j => frozen_of_row w2 (w.heap.size + 1) j _ _ hq
  have HB2 : Hid (Below w.heap.size w w2) := HBW.out.trans (hb2.mono (by rw [HSW.out]; omega))
  clear HC hb2 hq x0 x1 x2 x3 x4 x5 hW
  go_wp2
  exact bodyPost_ret (v := .tuple #[zeroE, .slice none 0 0, .iface 65 (.int .i64 (2 : Nat))]) (by simp [results, Try.results28, go_sem, q0, q1, q2, q3, q4, q5]) rfl ⟨rfl, below_six (b := w.heap.size + 1) HB2.out (Nat.le_succ _)⟩
set_option maxRecDepth 100000 in
set_option maxHeartbeats 8000000 in
theorem step_good (s : St) (fa ea la : Option Addr) (fc ec lc : Nat) (l : List (List Int)) (w : World) (h : InE w s fa ea fc ec) (hl : Recs w la 7 l) (hc : checkE s.t s.g0 s.g1 s.nx s.free s.es = 0) (h8 : l.length ≤ 8) (ht : s.t ≠ 60) :
    Calls Try.prog 28 #[elderV s.t s.g0 s.g1 s.nx (.slice fa s.free.length fc) (.slice ea s.es.length ec), .slice la l.length lc] w fun e w' => ∃ fv ev bv, e = .returned (.tuple #[elderV (stepS s l).t (stepS s l).g0 (stepS s l).g1 (stepS s l).nx fv ev, bv, .nilIface]) ∧ Row w.heap.size w' ev (stepS s l).es ∧ NRow w.heap.size w' fv (stepS s l).free ∧ NRow w.heap.size w' bv (stepS s l).born ∧ (fv.ownBlock = none ∨ fv.ownBlock ≠ bv.ownBlock) ∧ Below w.heap.size w w' := by
  obtain ⟨W, hW⟩ : ∃ W, (w.alloc (.cells #[.int .i64 s.t, .int .i64 s.g0, .int .i64 s.g1, .int .i64 s.nx, .slice fa s.free.length fc, .slice ea s.es.length ec] 36)).alloc (.cells #[.int .i64 0, .int .i64 0, .int .i64 0, .int .i64 0, .slice none 0 0, .slice none 0 0] 36) = W := ⟨_, rfl⟩
  obtain ⟨hbW, hsW, hh0, hh1⟩ := step_boxes hW
  obtain ⟨x0, x1, x2, x3, x4, x5⟩ := elder_cells hh0
  have hin := h.below hbW
  have HC := hid (moved_good s fa ea la fc ec lc l W hin (hl.below hbW) hc h8 ht)
  have HIk := hid (cmds_inv (inv_of_check hc) h.born l)
  have HT : Hid ((cmdsS s l).t = s.t) := cmdsS_t l s
  have HBW := hid hbW
  have HSW := hid hsW
  have HQ2 := hid hh1
  have HST : Hid (stepS s l = endS (cmdsS s l) (wasF (idsE s.es))) := rfl
  obtain ⟨R, hR⟩ : ∃ R, stepS s l = R := ⟨_, rfl⟩
  have HRR := hid hR
  rw [hR] at HST
  clear hR
  generalize cmdsS s l = S at HC HIk HT HST
  generalize wasF (idsE s.es) = was at HC HST
  have hM := inv_move HIk.out.mem was
  have hA := inv_arrive hM was
  have HSO := hid (invM_strikeOk hA)
  have HIA := hid hA
  clear h hin hbW hsW hh0 hh1 hc hl h8 ht hM hA
  go_enter Try.func28, Try.ntmps28
  go_wp2_with fail
  refine HC.out.mono ?_
  rintro e w6 ⟨p, rfl, hG6, hb6⟩
  have HB6 := hid hb6
  have HG6 := hid hG6
  have hpW : W.heap.size ≤ p := by
    obtain ⟨_, _, _, _, hG⟩ := hG6
    exact hG.bp
  have hs2 : w.heap.size + 1 < W.heap.size := by rw [HSW.out]; omega
  clear HC hG6 hb6 x0 x1 x2 x3 x4 x5 hW
  go_wp2_with fail
  refine (strike_calls W.heap.size p (arriveS (moveS S was) was) was w6 HSO.out HG6.out).mono ?_
  rintro e w7 ⟨rfl, hG7, hb7⟩
  have HB7 : Hid (Below W.heap.size W w7) := HB6.out.trans hb7
  have HG7 := hid hG7
  have hel7 : (strikeS (arriveS (moveS S was) was) was).es.length ≤ 20 := by
    unfold strikeS
    simp only [List.length_map]
    exact HIA.out.el
  have hfl7 : (strikeS (arriveS (moveS S was) was) was).free.length ≤ 200 := HIA.out.fl
  clear HG6 HB6 hG7 hb7
  go_wp2_with fail
  refine (bury_calls W.heap.size p (strikeS (arriveS (moveS S was) was) was) was w7 (by omega) (by omega) HG7.out).mono ?_
  rintro e w8 ⟨rfl, hG8, hb8⟩
  have HB8 : Hid (Below W.heap.size W w8) := HB7.out.trans hb8
  obtain ⟨ev, fv, bv, B, hGm⟩ := hG8
  have hRS : R = { buryS (strikeS (arriveS (moveS S was) was) was) with t := S.t + 1 } := HST.out
  have htt : (buryS (strikeS (arriveS (moveS S was) was) was)).t = S.t := rfl
  have ht0 := HIk.out.t0
  have ht1 := HIk.out.t1
  have c0 : w8.cell? ⟨p, 0, none⟩ = some (.int .i64 S.t) := hGm.cell 0
  have f0 := hGm.frozen 0
  have hGn := hGm.pset 0 (.int .i64 (S.t + 1)) (s' := R) (by rw [hRS]; rfl) (by rw [hRS]; exact hGm.er) (by rw [hRS]; exact hGm.fr) (by rw [hRS]; exact hGm.br) hGm.fb
  have HGn := hid hGn
  have hbp := hGm.bp
  have HBn : Hid (Below W.heap.size W (w8.setCell ⟨p, 0, none⟩ (.int .i64 (S.t + 1)))) := HB8.out.setCell (p := ⟨p, 0, none⟩) hbp _
  have hwr : IntKind.i64.wrap (S.t + 1) = S.t + 1 := IntWalk.i64_in _ ⟨by omega, by omega⟩
  clear HG7 HB7 hb8 HB8 hGm hGn hRS htt HSO HIA
  go_wp2_with fail
  generalize w8.setCell ⟨p, 0, none⟩ (.int .i64 (S.t + 1)) = Y at HGn HBn ⊢
  clear c0 f0 hwr
  obtain ⟨fa', fc', hfv, _, _, _⟩ := HGn.out.fr.open
  obtain ⟨ea', ec', hev, _, _, _⟩ := HGn.out.er.open
  obtain ⟨ba', bc', hbv, _, _, _⟩ := HGn.out.br.open
  subst hfv hev hbv
  have hq := (HBn.out.block (w.heap.size + 1) hs2).trans HQ2.out
  obtain ⟨q0, q1, q2, q3, q4, q5⟩ := elder_cells hq
  have g0 := frozen_of_row Y (w.heap.size + 1) 0 _ _ hq
  have g1 := frozen_of_row Y (w.heap.size + 1) 1 _ _ hq
  have g2 := frozen_of_row Y (w.heap.size + 1) 2 _ _ hq
  have g3 := frozen_of_row Y (w.heap.size + 1) 3 _ _ hq
  have g4 := frozen_of_row Y (w.heap.size + 1) 4 _ _ hq
  have g5 := frozen_of_row Y (w.heap.size + 1) 5 _ _ hq
  have hpY := HGn.out.lt
  have hne : p ≠ w.heap.size + 1 := by omega
  have KC : ∀ j w', Y.grownBy w' (some (w.heap.size + 1)) → w'.cell? ⟨p, j, none⟩ = (gameC R (.slice fa' R.free.length fc') (.slice ea' R.es.length ec') (.slice ba' R.born.length bc') B)[j]? := fun j w' h => (grown_cell h hpY hne j).trans (HGn.out.cell j)
  have k0 : ∀ w', Y.grownBy w' (some (w.heap.size + 1)) → w'.cell? ⟨p, 0, none⟩ = some (.int .i64 R.t) := KC 0
  have k1 : ∀ w', Y.grownBy w' (some (w.heap.size + 1)) → w'.cell? ⟨p, 1, none⟩ = some (.int .i64 R.g0) := KC 1
  have k2 : ∀ w', Y.grownBy w' (some (w.heap.size + 1)) → w'.cell? ⟨p, 2, none⟩ = some (.int .i64 R.g1) := KC 2
  have k3 : ∀ w', Y.grownBy w' (some (w.heap.size + 1)) → w'.cell? ⟨p, 3, none⟩ = some (.int .i64 R.nx) := KC 3
  have k4 : ∀ w', Y.grownBy w' (some (w.heap.size + 1)) → w'.cell? ⟨p, 4, none⟩ = some (.slice fa' R.free.length fc') := KC 4
  have k5 : ∀ w', Y.grownBy w' (some (w.heap.size + 1)) → w'.cell? ⟨p, 5, none⟩ = some (.slice ea' R.es.length ec') := KC 5
  have k7 : ∀ w', Y.grownBy w' (some (w.heap.size + 1)) → w'.cell? ⟨p, 7, none⟩ = some (.slice ba' R.born.length bc') := KC 7
  clear KC hq
  go_region_held3 (fun w' => Y.grownBy w' (some (w.heap.size + 1))) (first | with_reducible exact grown_drew _ _ | with_reducible exact grown_drewd (grown_set (grown_set (grown_set (grown_set (grown_set (grown_set (grown_refl _ _) _ _) _ _) _ _) _ _) _ _) _ _)) (fail)
  all_goals
    go_wp2
    refine bodyPost_ret (v := .tuple #[elderV R.t R.g0 R.g1 R.nx (.slice fa' R.free.length fc') (.slice ea' R.es.length ec'), .slice ba' R.born.length bc', .nilIface]) (by simp [results, Try.results28, go_sem, q0, q1, q2, q3, q4, q5]) rfl ?_
    show ∃ fv ev bv, _ ∧ Row w.heap.size (World.drew (setSix Y (w.heap.size + 1) (.int .i64 R.t) (.int .i64 R.g0) (.int .i64 R.g1) (.int .i64 R.nx) (.slice fa' R.free.length fc') (.slice ea' R.es.length ec'))) ev _ ∧ NRow w.heap.size (World.drew (setSix Y (w.heap.size + 1) (.int .i64 R.t) (.int .i64 R.g0) (.int .i64 R.g1) (.int .i64 R.nx) (.slice fa' R.free.length fc') (.slice ea' R.es.length ec'))) fv _ ∧ NRow w.heap.size (World.drew (setSix Y (w.heap.size + 1) (.int .i64 R.t) (.int .i64 R.g0) (.int .i64 R.g1) (.int .i64 R.nx) (.slice fa' R.free.length fc') (.slice ea' R.es.length ec'))) bv _ ∧ _ ∧ Below w.heap.size w (World.drew (setSix Y (w.heap.size + 1) (.int .i64 R.t) (.int .i64 R.g0) (.int .i64 R.g1) (.int .i64 R.nx) (.slice fa' R.free.length fc') (.slice ea' R.es.length ec')))
    rw [HRR.out]
    exact ⟨_, _, _, rfl, row_six HGn.out.er hs2 (by rw [HSW.out]; omega), row_six HGn.out.fr hs2 (by rw [HSW.out]; omega), row_six HGn.out.br hs2 (by rw [HSW.out]; omega), HGn.out.fb, (below_six (HBW.out.trans (HBn.out.mono (by omega))) (Nat.le_succ _)).drew⟩
end Go.Proofs.Ytgiieepfhohmhab
