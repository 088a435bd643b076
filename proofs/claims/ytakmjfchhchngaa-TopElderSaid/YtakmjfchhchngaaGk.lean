/- A tick under way: a command. -/
import Derived.Test.YtakmjfchhchngaaGj
namespace Go.Proofs.Ytakmjfchhchngaa
open Go.RowKit Go.Maps

def goS (s : St) (i : Nat) (x y : Int) : St :=
  if (Pl.onB x y && decide (0 < Pl.eSpeed (fld (rec s.es i) 2))) = true then { s with es := s.es.set i (updR 10 (updR 10 (turnR (rec s.es i) 1) 7 x) 8 y) } else s
def stopS (s : St) (i : Nat) : St := { s with es := s.es.set i (turnR (rec s.es i) 0) }
def doS (s : St) (q : List Int) (i : Nat) : St :=
  if fld q 1 = 1 then goS s i (fld q 4) (fld q 5)
  else if fld q 1 = 2 then aimS s i 2 (fld q 6)
  else if fld q 1 = 3 then aimS s i 3 (fld q 6)
  else if fld q 1 = 4 then buildS s (rec s.es i) q
  else if fld q 1 = 5 then stopS s i
  else s
def cmdS (s : St) (q : List Int) : St :=
  if idxZ (isId (fld q 2)) s.es < 0 then s
  else if fld (rec s.es (idxZ (isId (fld q 2)) s.es).toNat) 1 = fld q 0 then doS s q (idxZ (isId (fld q 2)) s.es).toNat
  else s

/- What is known of those that are there while commands are done. -/
def OkU (u : List Int) : Prop := ((0 ≤ fld u 3 ∧ fld u 3 < 12) ∧ 0 ≤ fld u 4 ∧ fld u 4 < 12) ∧ (fld u 2 = 1 → fld u 1 = 0 ∨ fld u 1 = 1)

set_option maxRecDepth 100000 in
set_option maxHeartbeats 8000000 in
theorem command_calls (base p : Nat) (s : St) (was : Int → Int) (q : List Int) (w : World) (hn : s.es.length ≤ 50) (hfl : s.free.length ≤ 1000) (hbl : s.born.length ≤ 1000) (hn0 : 0 ≤ s.nx) (hg0 : 0 ≤ s.g0 ∧ s.g0 ≤ 1000) (hg1 : 0 ≤ s.g1 ∧ s.g1 ≤ 1000)
    (hok : ∀ i, i < s.es.length → OkU (rec s.es i)) (h : GmE base w p s was) :
    Calls Try.prog 67 #[.pointer (some ⟨p, 0, none⟩), cmdV q] w fun e w' => e = .returned (.tuple #[]) ∧ GmE base w' p (cmdS s q) was ∧ Below base w w' := by
  have hlt := h.lt
  obtain ⟨ev, fv, bv, B, hGm⟩ := h
  obtain ⟨ea, c, rfl, hcap, hrecs, hg0'⟩ := hGm.er.open
  obtain ⟨W, hW⟩ : ∃ W, w.alloc (.cells (cmdC q) 69) = W := ⟨_, rfl⟩
  have hbW : Below w.heap.size w W := by rw [← hW]; exact (Below.refl _ w).alloc (Nat.le_refl _) _
  have hsW : W.heap.size = w.heap.size + 1 := by rw [← hW]; simp [go_sem]
  have hX : W.heap[w.heap.size]? = some (.cells (cmdC q) 69) := by rw [← hW]; exact heap_alloc_new w _
  have hxc : ∀ j, W.cell? ⟨w.heap.size, j, none⟩ = (cmdC q)[j]? := fun j => cell_of_row W w.heap.size j _ _ _ hX
  have y2 : W.cell? ⟨w.heap.size, 2, none⟩ = some (.int .i64 (fld q 2)) := hxc 2
  obtain ⟨c0, c1, c2, c3, c4, c5, c6, c7⟩ := (hGm.below hbW).eight
  have HI : Hid (∀ W', Recs W' ea 10 s.es → Calls Try.prog 101 #[.slice ea s.es.length c, .int .i64 (fld q 2)] W' fun e w' => e = .returned (.int .i64 (idxZ (isId (fld q 2)) s.es)) ∧ Below W'.heap.size W' w') := fun W' hW' => index_calls (fld q 2) s.es ea c W' (by omega) hW'
  have HR := hid (hrecs.below hbW)
  have HGm := hid (hGm.below hbW)
  have HBW := hid hbW
  have HSW := hid hsW
  have HX := hid hX
  have HOK := hid hok
  clear hGm hrecs hg0' hbW hsW hX hxc hok c0 c1 c2 c3 c4 c6 c7
  go_enter Try.func67, Try.ntmps67
  go_wp2_with fail
  go_cut [4] (fun r wx => r = .int .i64 (idxZ (isId (fld q 2)) s.es) ∧ Hid (Below W.heap.size W wx))
  case first =>
    go_region_with (go_at_call 101; refine (HI.out _ (HR.out.drewN _)).mono ?_; rintro e w2 ⟨rfl, hb2⟩)
    all_goals
      have HB2 := hid (below_of_drewN hb2)
      clear hb2 y2 c5
      go_wp2
      go_meet
      exact ⟨rfl, HB2⟩
  case rest =>
    obtain ⟨rfl, HB⟩ := hcut
    clear y2 c5 HI hW HR
    have hGc := HGm.out.below HB.out
    have hXc : wc.heap[w.heap.size]? = some (.cells (cmdC q) 69) := (HB.out.block w.heap.size (by rw [HSW.out]; omega)).trans HX.out
    have hxc : ∀ j, wc.cell? ⟨w.heap.size, j, none⟩ = (cmdC q)[j]? := fun j => cell_of_row wc w.heap.size j _ _ _ hXc
    have y0 : wc.cell? ⟨w.heap.size, 0, none⟩ = some (.int .i64 (fld q 0)) := hxc 0
    have y1 : wc.cell? ⟨w.heap.size, 1, none⟩ = some (.int .i64 (fld q 1)) := hxc 1
    have y2 : wc.cell? ⟨w.heap.size, 2, none⟩ = some (.int .i64 (fld q 2)) := hxc 2
    have y3 : wc.cell? ⟨w.heap.size, 3, none⟩ = some (.int .i64 (fld q 3)) := hxc 3
    have y4 : wc.cell? ⟨w.heap.size, 4, none⟩ = some (.int .i64 (fld q 4)) := hxc 4
    have y5 : wc.cell? ⟨w.heap.size, 5, none⟩ = some (.int .i64 (fld q 5)) := hxc 5
    have y6 : wc.cell? ⟨w.heap.size, 6, none⟩ = some (.int .i64 (fld q 6)) := hxc 6
    have HBE : Hid (Below base w wc) := (HBW.out.trans (HB.out.mono (by rw [HSW.out]; omega))).mono (by omega)
    have hsc : w.heap.size + 1 ≤ wc.heap.size := by have := HB.out.size; rw [HSW.out] at this; exact this
    obtain ⟨c0, c1, c2, c3, c4, c5, c6, c7⟩ := hGc.eight
    have HXc := hid hXc
    have HGc := hid hGc
    clear hGc hXc hxc HGm HBW HX c0 c1 c2 c3 c4 c6 c7
    by_cases hz : idxZ (isId (fld q 2)) s.es < 0
    · have HE : Hid (cmdS s q = s) := by show _ = _; unfold cmdS; rw [if_pos hz]
      go_wp2_with fail
      go_quiet (fail)
      go_wp2
      refine bodyPost_ret (results_none rfl _ _ _) rfl ?_
      exact ⟨rfl, by rw [HE.out]; exact ⟨_, _, _, _, HGc.out.below (below_drewN (Below.refl _ _) _)⟩, below_drewN HBE.out _⟩
    obtain ⟨k, hk⟩ : ∃ k : Nat, idxZ (isId (fld q 2)) s.es = k := ⟨(idxZ (isId (fld q 2)) s.es).toNat, by omega⟩
    have hkl : k < s.es.length := by have := (idxZ_bd (isId (fld q 2)) s.es).2; omega
    have HC : Hid (cmdS s q = if fld (rec s.es k) 1 = fld q 0 then doS s q k else s) := by
      show _ = _
      unfold cmdS
      rw [if_neg hz, hk]
      rfl
    rw [hk]
    clear hz hk
    obtain ⟨ea', c', hev, _, _, hgx⟩ := HGc.out.er.open
    obtain ⟨g, hg, hbg, hgl⟩ := hgx (by omega)
    cases hev
    subst hg
    obtain ⟨hc, hf⟩ := HGc.out.er.ten hkl
    have l0 : wc.cell? ⟨g, k * 10, none⟩ = some (.int .i64 (fld (rec s.es k) 0)) := hc 0 (by omega)
    have l1 := hc 1 (by omega)
    have l2 := hc 2 (by omega)
    have l3 := hc 3 (by omega)
    have l4 := hc 4 (by omega)
    have l5 := hc 5 (by omega)
    have l6 := hc 6 (by omega)
    have l7 := hc 7 (by omega)
    have l8 := hc 8 (by omega)
    have l9 := hc 9 (by omega)
    have f6 := hf (k * 10 + 6)
    have f7 := hf (k * 10 + 7)
    have f8 := hf (k * 10 + 8)
    have f9 := hf (k * 10 + 9)
    have hkz : (k : Int) < (s.es.length : Int) := by omega
    have hkd : decide ((k : Int) < 0) = false := decide_eq_false (by omega)
    have HUK := hid (HOK.out k hkl)
    clear hc hf hgx HOK
    by_cases ho : fld (rec s.es k) 1 = fld q 0
    case neg =>
      have HE : Hid (cmdS s q = s) := by show _ = _; rw [HC.out, if_neg ho]
      have hob : (fld (rec s.es k) 1 != fld q 0) = true := by simpa using ho
      clear ho HC
      go_wp2_with fail
      go_quiet (fail)
      go_wp2
      refine bodyPost_ret (results_none rfl _ _ _) rfl ?_
      exact ⟨rfl, by rw [HE.out]; exact ⟨_, _, _, _, HGc.out.below (below_drewN (Below.refl _ _) _)⟩, below_drewN HBE.out _⟩
    have hob : (fld (rec s.es k) 1 != fld q 0) = false := by simpa using ho
    rw [if_pos ho] at HC
    clear ho
    obtain ⟨wq, rfl⟩ : ∃ x, x = wc := ⟨_, rfl⟩
    go_wp2_with fail
    go_cut [29] (fun r wx => r = .bool false ∧ ∃ n, wx = wq.drewN n)
    case first =>
      go_quiet (fail)
      go_wp2
      go_meet
      exact ⟨rfl, _, rfl⟩
    case rest =>
      obtain ⟨rfl, n1, rfl⟩ := hcut
      have HG2 := hid (HGc.out.below (below_drewN (Below.refl _ _) n1))
      have HB2 := hid (below_drewN HBE.out n1)
      have HX2 : Hid ((wq.drewN n1).heap[w.heap.size]? = some (.cells (cmdC q) 69)) := HXc.out
      have HR2 : Hid (Recs wq (some ⟨g, 0, none⟩) 10 s.es) := (HGc.out.er.open).elim (fun ea h => h.elim fun c h => by
        obtain ⟨hev, _, hr, _⟩ := h
        cases hev
        exact hr)
      clear HGc HBE HXc hob hkd y0 y2 y3
      by_cases h1 : fld q 1 = 1
      · have HD : Hid (doS s q k = goS s k (fld q 4) (fld q 5)) := by show _ = _; unfold doS; rw [if_pos h1]
        have b1 : (fld q 1 == 1) = true := by simpa using h1
        clear h1
        go_wp2_with fail
        refine (on_calls _ _ _).mono ?_
        rintro e w' ⟨rfl, rfl⟩
        cases hon : Pl.onB (fld q 4) (fld q 5)
        · have HE : Hid (cmdS s q = s) := by show _ = _; rw [HC.out, HD.out]; unfold goS; rw [hon]; rfl
          go_wp2
          go_end0
          exact ⟨rfl, by rw [HE.out]; exact ⟨_, _, _, _, HG2.out⟩, HB2.out⟩
        go_wp2_with fail
        refine (rule_elder_calls (rec s.es k) _).mono ?_
        rintro e w2 ⟨rfl, hb2⟩
        have hG3 := HG2.out.below hb2
        have hX3 := (hb2.block w.heap.size (show w.heap.size < wq.heap.size by omega)).trans HX2.out
        have HB3 := hid (HB2.out.trans (hb2.mono (show base ≤ wq.heap.size by omega)))
        have fr := field_rule2
        clear hb2 HG2 HB2 HX2 l0 l1 l2 l3 l4 l5 l6 l7 l8 l9 f6 f7 f8 f9 y1 y4 y5 y6
        by_cases hsp : 0 < Pl.eSpeed (fld (rec s.es k) 2)
        case neg =>
          have HE : Hid (cmdS s q = s) := by show _ = _; rw [HC.out, HD.out]; unfold goS; rw [hon, decide_eq_false hsp]; rfl
          have HG3 := hid hG3
          clear hG3 hX3
          go_wp2
          go_end0
          exact ⟨rfl, by rw [HE.out]; exact ⟨_, _, _, _, HG3.out⟩, HB3.out⟩
        have HE : Hid (cmdS s q = { s with es := s.es.set k (updR 10 (updR 10 (turnR (rec s.es k) 1) 7 (fld q 4)) 8 (fld q 5)) }) := by show _ = _; rw [HC.out, HD.out]; unfold goS; rw [hon, decide_eq_true hsp]; rfl
        obtain ⟨hc, hf⟩ := hG3.er.ten hkl
        have l6 := hc 6 (by omega)
        have l7 := hc 7 (by omega)
        have l8 := hc 8 (by omega)
        have l9 := hc 9 (by omega)
        have f6 := hf (k * 10 + 6)
        have f7 := hf (k * 10 + 7)
        have f8 := hf (k * 10 + 8)
        have f9 := hf (k * 10 + 9)
        have hG4 := gm_turn hG3 hkl 1
        have hgX : g ≠ w.heap.size := fun e => row_ne hG3.er hX3 (by decide) (by rw [e]; rfl)
        have hX4 : (turnW w2 g (k * 10) 1).heap[w.heap.size]? = some (.cells (cmdC q) 69) := by
          unfold turnW
          rw [heap_setCell_other _ _ _ _ (fun e => hgX e.symm), heap_setCell_other _ _ _ _ (fun e => hgX e.symm), heap_setCell_other _ _ _ _ (fun e => hgX e.symm), heap_setCell_other _ _ _ _ (fun e => hgX e.symm)]
          exact hX3
        have HG4 := hid hG4
        have HX4 := hid hX4
        have HB4 := hid (below_turnW (m := k * 10) (does := 1) HB3.out hbg)
        clear hG3 hX3 hc hf hG4 hX4 HB3
        go_wp2_with fail
        refine (turn_calls g (k * 10) 1 _ _ _ _ _ l6 l7 l8 l9 f6 f7 f8 f9).mono ?_
        rintro e w4 ⟨rfl, rfl⟩
        clear l6 l7 l8 l9 f6 f7 f8 f9
        generalize turnW w2 g (k * 10) 1 = w4 at HG4 HX4 HB4
        have hk4 : k < (s.es.set k (turnR (rec s.es k) 1)).length := by simpa using hkl
        obtain ⟨hc, hf⟩ := HG4.out.er.ten hk4
        have l7 := hc 7 (by omega)
        have l8 := hc 8 (by omega)
        have f7 := hf (k * 10 + 7)
        have f8 := hf (k * 10 + 8)
        have hxc : ∀ j, w4.cell? ⟨w.heap.size, j, none⟩ = (cmdC q)[j]? := fun j => cell_of_row w4 w.heap.size j _ _ _ HX4.out
        have y4 : w4.cell? ⟨w.heap.size, 4, none⟩ = some (.int .i64 (fld q 4)) := hxc 4
        have y5 : w4.cell? ⟨w.heap.size, 5, none⟩ = some (.int .i64 (fld q 5)) := hxc 5
        have hG5 := gm_rput HG4.out hk4 (j := 7) (by omega) (fld q 4)
        have hG6 := gm_rput hG5 (i := k) (by simpa using hkl) (j := 8) (by omega) (fld q 5)
        simp only [set_set] at hG6
        rw [rec_set_same hkl, rec_set_same hkl] at hG6
        have HG6 : Hid (GmE base ((w4.setCell ⟨g, k * 10 + 7, none⟩ (.int .i64 (fld q 4))).setCell ⟨g, k * 10 + 8, none⟩ (.int .i64 (fld q 5))) p { s with es := s.es.set k (updR 10 (updR 10 (turnR (rec s.es k) 1) 7 (fld q 4)) 8 (fld q 5)) } was) := ⟨_, _, _, _, hG6⟩
        have HB6 : Hid (Below base w ((w4.setCell ⟨g, k * 10 + 7, none⟩ (.int .i64 (fld q 4))).setCell ⟨g, k * 10 + 8, none⟩ (.int .i64 (fld q 5)))) := (HB4.out.setCell (p := ⟨g, k * 10 + 7, none⟩) hbg _).setCell (p := ⟨g, k * 10 + 8, none⟩) hbg _
        clear hc hf hxc hG5 hG6 HG4 HX4 HB4
        go_wp2_with fail
        go_region
        all_goals
          go_wp2
          go_end0
          exact ⟨rfl, by rw [HE.out]; exact HG6.out.drew, HB6.out.drew⟩
      have b1 : (fld q 1 == 1) = false := by simpa using h1
      by_cases h2 : fld q 1 = 2
      · have HE : Hid (cmdS s q = aimS s k 2 (fld q 6)) := by show _ = _; rw [HC.out]; unfold doS; rw [if_neg h1, if_pos h2]
        have b2 : (fld q 1 == 2) = true := by simpa using h2
        clear h2 h1 HC
        go_wp2_with fail
        refine (aim_calls base p g _ c fv bv B s was k 2 (fld q 6) _ hkl (by omega) HG2.out).mono ?_
        rintro e w2 ⟨rfl, hG3, hb3⟩
        have HG3 := hid hG3
        have HB3 := hid (HB2.out.trans hb3)
        clear hG3 hb3 l0 l1 l2 l3 l4 l5 l6 l7 l8 l9 f6 f7 f8 f9 y1 y4 y5 y6
        go_wp2
        go_end0
        exact ⟨rfl, by rw [HE.out]; exact ⟨_, _, _, _, HG3.out⟩, HB3.out⟩
      have b2 : (fld q 1 == 2) = false := by simpa using h2
      by_cases h3 : fld q 1 = 3
      · have HE : Hid (cmdS s q = aimS s k 3 (fld q 6)) := by show _ = _; rw [HC.out]; unfold doS; rw [if_neg h1, if_neg h2, if_pos h3]
        have b3 : (fld q 1 == 3) = true := by simpa using h3
        clear h3 h1 h2 HC
        go_wp2_with fail
        refine (aim_calls base p g _ c fv bv B s was k 3 (fld q 6) _ hkl (by omega) HG2.out).mono ?_
        rintro e w2 ⟨rfl, hG3, hb3⟩
        have HG3 := hid hG3
        have HB3 := hid (HB2.out.trans hb3)
        clear hG3 hb3 l0 l1 l2 l3 l4 l5 l6 l7 l8 l9 f6 f7 f8 f9 y1 y4 y5 y6
        go_wp2
        go_end0
        exact ⟨rfl, by rw [HE.out]; exact ⟨_, _, _, _, HG3.out⟩, HB3.out⟩
      have b3 : (fld q 1 == 3) = false := by simpa using h3
      by_cases h4 : fld q 1 = 4
      · have HE : Hid (cmdS s q = buildS s (rec s.es k) q) := by show _ = _; rw [HC.out]; unfold doS; rw [if_neg h1, if_neg h2, if_neg h3, if_pos h4]
        have b4 : (fld q 1 == 4) = true := by simpa using h4
        have HX3 := HX2
        have hxc : ∀ j, wq.cell? ⟨w.heap.size, j, none⟩ = (cmdC q)[j]? := fun j => cell_of_row wq w.heap.size j _ _ _ HX2.out
        have y0 : wq.cell? ⟨w.heap.size, 0, none⟩ = some (.int .i64 (fld q 0)) := hxc 0
        have y2 : wq.cell? ⟨w.heap.size, 2, none⟩ = some (.int .i64 (fld q 2)) := hxc 2
        have y3 : wq.cell? ⟨w.heap.size, 3, none⟩ = some (.int .i64 (fld q 3)) := hxc 3
        have HBC : Hid (∀ W', GmE base W' p s was → Calls Try.prog 105 #[.pointer (some ⟨p, 0, none⟩), entV (rec s.es k), cmdV q] W' fun e w' => e = .returned (.tuple #[]) ∧ GmE base w' p (buildS s (rec s.es k) q) was ∧ Below base W' w' ∧ Fr W' w' p) := fun W' hW' => build_calls base p s was (rec s.es k) q W' hn hfl hbl hn0 hg0 hg1 HUK.out.1 HUK.out.2 hW'
        have HG3 : Hid (GmE base (wq.drewN n1) p s was) := ⟨_, _, _, _, HG2.out⟩
        clear h4 h1 h2 h3 HC hxc HG2
        go_wp2_with fail
        go_region_with (go_at_call 105; refine (HBC.out _ (HG3.out.drew)).mono ?_; rintro e w2 ⟨rfl, hG4, hb4, hf4⟩)
        all_goals
          have HG4 := hid hG4
          have HB4 := hid (HB2.out.drew.trans hb4)
          clear hG4 hb4 hf4 l0 l1 l2 l3 l4 l5 l6 l7 l8 l9 f6 f7 f8 f9 y0 y1 y2 y3 y4 y5 y6
          go_wp2
          go_end0
          exact ⟨rfl, by rw [HE.out]; exact HG4.out, HB4.out⟩
      have b4 : (fld q 1 == 4) = false := by simpa using h4
      by_cases h5 : fld q 1 = 5
      · have HE : Hid (cmdS s q = stopS s k) := by show _ = _; rw [HC.out]; unfold doS; rw [if_neg h1, if_neg h2, if_neg h3, if_neg h4, if_pos h5]
        have b5 : (fld q 1 == 5) = true := by simpa using h5
        have HG3 := hid (gm_turn HG2.out hkl 0)
        have HB3 := hid (below_turnW (m := k * 10) (does := 0) HB2.out hbg)
        clear h5 h1 h2 h3 h4 HC
        go_wp2_with fail
        refine (turn_calls g (k * 10) 0 (wq.drewN n1) _ _ _ _ l6 l7 l8 l9 f6 f7 f8 f9).mono ?_
        rintro e w2 ⟨rfl, rfl⟩
        clear l0 l1 l2 l3 l4 l5 l6 l7 l8 l9 f6 f7 f8 f9 y1 y4 y5 y6
        generalize turnW (wq.drewN n1) g (k * 10) 0 = w4 at HG3 HB3
        go_wp2
        go_end0
        exact ⟨rfl, by rw [HE.out]; exact ⟨_, _, _, _, HG3.out⟩, HB3.out⟩
      have b5 : (fld q 1 == 5) = false := by simpa using h5
      have HE : Hid (cmdS s q = s) := by show _ = _; rw [HC.out]; unfold doS; rw [if_neg h1, if_neg h2, if_neg h3, if_neg h4, if_neg h5]
      clear h5 h1 h2 h3 h4 HC
      go_wp2
      go_end0
      exact ⟨rfl, by rw [HE.out]; exact ⟨_, _, _, _, HG2.out⟩, HB2.out⟩
end Go.Proofs.Ytakmjfchhchngaa
