/- Package newer of the program: an order. -/
import Derived.Test.YtmnddahkbmlibaaNsNwS
import Derived.Test.YtmnddahkbmlibaaNsNwN
namespace Go.Proofs.Ytmnddahkbmlibaa
open Go.RowKit Go.Maps
theorem updR_ext {u v : List Int} (h : ∀ q, q < 11 → fld u q = fld v q) (hu : u = (List.range 11).map (fld u)) (hv : v = (List.range 11).map (fld v)) : u = v := by
  rw [hu, hv]
  exact List.map_congr_left fun q hq => h q (List.mem_range.1 hq)
theorem updR_map (u : List Int) (j : Nat) (x : Int) : updR 11 u j x = (List.range 11).map (fld (updR 11 u j x)) := by
  conv => lhs; unfold updR
  exact List.map_congr_left fun q hq => by rw [fld_updR _ _ _ (List.mem_range.1 hq)]
theorem tell_go (u : List Int) (x y : Int) : updR 11 (updR 11 (tellR u 1 0 0 0) 7 x) 8 y = tellR u 1 x y 0 := by
  refine updR_ext (fun q hq => ?_) (updR_map _ _ _) (updR_map _ _ _)
  unfold tellR
  match q, hq with
  | 0, _ => simp [fld_updR]
  | 1, _ => simp [fld_updR]
  | 2, _ => simp [fld_updR]
  | 3, _ => simp [fld_updR]
  | 4, _ => simp [fld_updR]
  | 5, _ => simp [fld_updR]
  | 6, _ => simp [fld_updR]
  | 7, _ => simp [fld_updR]
  | 8, _ => simp [fld_updR]
  | 9, _ => simp [fld_updR]
  | 10, _ => simp [fld_updR]
theorem tell_aim (u : List Int) (d t : Int) : updR 11 (tellR u d 0 0 0) 9 t = tellR u d 0 0 t := by
  refine updR_ext (fun q hq => ?_) (updR_map _ _ _) (updR_map _ _ _)
  unfold tellR
  match q, hq with
  | 0, _ => simp [fld_updR]
  | 1, _ => simp [fld_updR]
  | 2, _ => simp [fld_updR]
  | 3, _ => simp [fld_updR]
  | 4, _ => simp [fld_updR]
  | 5, _ => simp [fld_updR]
  | 6, _ => simp [fld_updR]
  | 7, _ => simp [fld_updR]
  | 8, _ => simp [fld_updR]
  | 9, _ => simp [fld_updR]
  | 10, _ => simp [fld_updR]
def whoO (es : List (List Int)) (id : Int) : Option Nat := if 0 ≤ idxZ (isId id) es then some (idxZ (isId id) es).toNat else none
theorem whoO_look {es : List (List Int)} (hu : Uniq es) (id : Int) : whoK es es.length id = (whoO es id).map fun j => inV j := by
  rw [who_look hu]
  unfold whoO
  split <;> rfl
theorem whoO_lt {es : List (List Int)} {id : Int} {j : Nat} (h : whoO es id = some j) : j < es.length := by
  unfold whoO at h
  split at h
  next hz => cases h; exact (idxZ_at hz).1
  · cases h
theorem aimP_is (s : St) (i : Nat) (id : Int) : ({ s with es := aimP s.es i id (whoO s.es id) } : St) = if 0 ≤ whoZ id s.es then aimsR true s i id (mayZ true (rec s.es i) (rec s.es (whoZ id s.es).toNat)) else s := by
  have hw : whoZ id s.es = idxZ (isId id) s.es := rfl
  rw [hw]
  unfold whoO
  by_cases hz : 0 ≤ idxZ (isId id) s.es
  · rw [if_pos hz, if_pos hz]
    unfold aimsR
    rw [hw]
    show ({ s with es := if mayN (aimD (rec s.es (idxZ (isId id) s.es).toNat)) (rec s.es i) (rec s.es (idxZ (isId id) s.es).toNat) = true then s.es.set i (updR 11 (tellR (rec s.es i) (aimD (rec s.es (idxZ (isId id) s.es).toNat)) 0 0 0) 9 id) else s.es } : St) = _
    generalize rec s.es (idxZ (isId id) s.es).toNat = v
    generalize rec s.es i = u
    have hd : aimD v = 2 ∨ aimD v = 3 := by
      unfold aimD
      split
      · exact Or.inr rfl
      · exact Or.inl rfl
    have e1 : mayZ true u v = if fld v 2 = 4 ∧ 0 < Pl.nLoad (fld u 2) then 3 else if fld v 2 ≠ 4 ∧ fld v 1 ≠ fld u 1 ∧ 0 < Pl.nHarm (fld u 2) then 2 else 0 := rfl
    have hiff : 0 < mayZ true u v ↔ mayZ true u v = aimD v := by
      rw [e1]
      unfold aimD
      by_cases h4 : fld v 2 = 4
      · rw [if_pos h4]
        by_cases hl : 0 < Pl.nLoad (fld u 2)
        · rw [if_pos ⟨h4, hl⟩]; decide
        · rw [if_neg (fun h => hl h.2), if_neg (fun h => h.1 h4)]; decide
      · rw [if_neg h4, if_neg (fun h => h4 h.1)]
        by_cases hh : fld v 2 ≠ 4 ∧ fld v 1 ≠ fld u 1 ∧ 0 < Pl.nHarm (fld u 2)
        · rw [if_pos hh]; decide
        · rw [if_neg hh]; decide
    by_cases hm : mayN (aimD v) u v = true
    · have hz2 := (mayZN hd u v).2 hm
      rw [if_pos hm, if_pos ⟨hz, hiff.2 hz2, rfl⟩, tell_aim, hz2]
    · rw [if_neg hm, if_neg (fun h => hm ((mayZN hd u v).1 (hiff.1 h.2.1)))]
  · rw [if_neg hz, if_neg hz]
    rfl
theorem gmN_tell2 {base : Nat} {w : World} {p g n c B : Nat} {s : St} {f : Int → Option Value} {o : Int} (h : GmN base w p (.slice (some ⟨g, 0, none⟩) n c) B s f o) {i : Nat} (hi : i < s.es.length) (x y : Int) :
    GmN base (((turnW w g (i * 11) 1).setCell ⟨g, i * 11 + 7, none⟩ (.int .i64 x)).setCell ⟨g, i * 11 + 8, none⟩ (.int .i64 y)) p (.slice (some ⟨g, 0, none⟩) n c) B { s with es := s.es.set i (tellR (rec s.es i) 1 x y 0) } f o := by
  have h1 := gmN_tell h hi 1 0 0 0
  rw [← turnW_tell] at h1
  have h2 := gmN_rput h1 (i := i) (by simpa using hi) (j := 7) (by omega) x
  have h3 := gmN_rput h2 (i := i) (by simpa using hi) (j := 8) (by omega) y
  simp only [set_set, rec_set_same hi] at h3
  rw [tell_go] at h3
  exact h3
theorem gmN_who {base : Nat} {w : World} {p B : Nat} {uv : Value} {s : St} {f g : Int → Option Value} {o : Int} (h : GmN base w p uv B s f o) (e : g = f) : GmN base w p uv B s g o := by rw [e]; exact h
set_option maxRecDepth 100000 in
set_option maxHeartbeats 8000000 in
theorem orderN_calls (base p B : Nat) (s : St) (o : Int) (q : List Int) (w : World) (hI : InvN s) (h : GmNE base w p B s o) :
    Calls Try.prog 106 #[.pointer (some ⟨p, 0, none⟩), ordV q] w fun e w' => e = .returned (.tuple #[]) ∧ GmNE base w' p B (ordN s q) o ∧ Below base w w' := by
  obtain ⟨uv, h⟩ := h
  have hlt := h.lt
  have hbp := h.bp
  have hbs : base ≤ w.heap.size := by omega
  obtain ⟨W, hW⟩ : ∃ W, w.alloc (.cells (ordC q) 98) = W := ⟨_, rfl⟩
  have hbW : Below w.heap.size w W := by rw [← hW]; exact (Below.refl _ w).alloc (Nat.le_refl _) _
  have hsW : W.heap.size = w.heap.size + 1 := by rw [← hW]; simp [go_sem]
  have hX : W.heap[w.heap.size]? = some (.cells (ordC q) 98) := by rw [← hW]; exact heap_alloc_new w _
  have hG := h.below hbW
  have HGW := hid hG
  have HX := hid hX
  have HBW : Hid (Below base w W) := hbW.mono hbs
  have HI := hid hI
  have hel := hI.el
  have d5 := hG.cell 5
  have y2 : W.cell? ⟨w.heap.size, 2, none⟩ = some (.int .i64 (fld q 2)) := cell_of_row W _ 2 _ _ _ hX
  have hu := uniq_of_up hI.up
  have HFIN0 : Hid (ordN s q = s → ∀ X, Below W.heap.size W X → GmNE base X p B (ordN s q) o ∧ Below base w X) := fun e X hX => by
    rw [e]
    exact ⟨⟨_, HGW.out.below hX⟩, HBW.out.trans (hX.mono (by omega))⟩
  by_cases hz : idxZ (isId (fld q 2)) s.es < 0
  · have HE : Hid (ordN s q = s) := by
      show _ = _
      unfold ordN
      rw [if_pos (show whoZ (fld q 2) s.es < 0 from hz)]
    have hlo : ∀ n, (Instr.lookup 141 (.map (some B)) (.int .i64 (fld q 2)) true).run Try.prog (W.drewN n) = .ok (.tuple #[.int .i64 0, .bool false]) (W.drewN n) := fun n => by
      have h := (hG.wh.below (below_drewN (Below.refl _ W) n)).lookOk (fld q 2)
      rw [who_look hu, if_neg (by omega)] at h
      exact h
    clear h hbW hX hG hI hu hz
    go_enter Try.func106, Try.ntmps106
    go_wp2_with fail
    go_quiet (fail)
    go_wp2_with fail
    go_quiet (fail)
    go_wp2
    refine bodyPost_ret (results_none rfl _ _ _) rfl ?_
    obtain ⟨f1, f2⟩ := HFIN0.out HE.out _ (below_drewN (below_drewN (Below.refl _ W) _) _)
    exact ⟨rfl, f1, f2⟩
  obtain ⟨k, hk⟩ : ∃ k : Nat, idxZ (isId (fld q 2)) s.es = k := ⟨(idxZ (isId (fld q 2)) s.es).toNat, by omega⟩
  have hkl : k < s.es.length := by have := (idxZ_bd (isId (fld q 2)) s.es).2; omega
  have HC : Hid (ordN s q = if fld (rec s.es k) 1 = fld q 0 then doN s q k else s) := by
    show _ = _
    unfold ordN
    have e : whoZ (fld q 2) s.es = (k : Int) := hk
    rw [e, if_neg (by omega)]
    rfl
  have hlo : ∀ n, (Instr.lookup 141 (.map (some B)) (.int .i64 (fld q 2)) true).run Try.prog (W.drewN n) = .ok (.tuple #[.int .i64 k, .bool true]) (W.drewN n) := fun n => by
    have h := (hG.wh.below (below_drewN (Below.refl _ W) n)).lookOk (fld q 2)
    rw [who_look hu, hk, if_pos (by omega)] at h
    have e : ((k : Int)).toNat = k := by omega
    rw [e] at h
    exact h
  obtain ⟨ea, c, rfl, hcap, hrecs, hg0⟩ := hG.er.open
  obtain ⟨g, rfl, hbg, hgl⟩ := hg0 (by omega)
  obtain ⟨hc, hf⟩ := hG.er.cells hkl
  have l1 := hc 1 (by omega)
  have y0 : W.cell? ⟨w.heap.size, 0, none⟩ = some (.int .i64 (fld q 0)) := cell_of_row W _ 0 _ _ _ hX
  have y1 : W.cell? ⟨w.heap.size, 1, none⟩ = some (.int .i64 (fld q 1)) := cell_of_row W _ 1 _ _ _ hX
  have hgw : g ≠ w.heap.size := fun e => row_ne hG.er hX (by decide) (by rw [e]; rfl)
  have d4 := hG.cell 4
  have hkz : (k : Int) < (s.es.length : Int) := by omega
  have hkz0 : (0 : Int) ≤ (k : Int) := by omega
  have HUQ := hid hu
  clear h hbW hrecs hg0 hc hf hX hI hu hz hk
  by_cases hown : fld (rec s.es k) 1 = fld q 0
  case neg =>
    have HE : Hid (ordN s q = s) := by show _ = _; rw [HC.out, if_neg hown]
    have hob : (fld (rec s.es k) 1 != fld q 0) = true := by simpa using hown
    clear hown HC hG
    go_enter Try.func106, Try.ntmps106
    go_wp2_with fail
    go_quiet (fail)
    go_wp2_with fail
    go_quiet (fail)
    go_wp2
    refine bodyPost_ret (results_none rfl _ _ _) rfl ?_
    obtain ⟨f1, f2⟩ := HFIN0.out HE.out _ (below_drewN (below_drewN (Below.refl _ W) _) _)
    exact ⟨rfl, f1, f2⟩
  have hob : (fld (rec s.es k) 1 != fld q 0) = false := by simpa using hown
  rw [if_pos hown] at HC
  clear hown hG
  go_enter Try.func106, Try.ntmps106
  go_wp2_with fail
  go_cut [4, 5] (fun r r2 wx => r = .int .i64 k ∧ r2 = .bool true ∧ ∃ n, wx = W.drewN n)
  case first =>
    go_quiet (fail)
    go_wp2
    go_meet
    exact ⟨rfl, rfl, _, rfl⟩
  case rest =>
    obtain ⟨rfl, rfl, n1, rfl⟩ := hcut
    go_wp2_with fail
    go_quiet (fail)
    obtain ⟨Y, hY⟩ : ∃ Y, (W.drewN n1).drewN nq = Y := ⟨_, rfl⟩
    have hbY : Below W.heap.size W Y := by rw [← hY]; exact below_drewN (below_drewN (Below.refl _ W) _) _
    rw [hY]
    have hGY := HGW.out.below hbY
    have hXY : Y.heap[w.heap.size]? = some (.cells (ordC q) 98) := (hbY.block _ (by omega)).trans HX.out
    have HBY : Hid (Below base w Y) := HBW.out.trans (hbY.mono (by omega))
    have hsY : w.heap.size < Y.heap.size := (Array.getElem?_eq_some_iff.1 hXY).1
    clear y0 y1 y2 d4 d5 l1 hlo hob HFIN0 hY hW
    have y0 : Y.cell? ⟨w.heap.size, 0, none⟩ = some (.int .i64 (fld q 0)) := cell_of_row Y _ 0 _ _ _ hXY
    have y1 : Y.cell? ⟨w.heap.size, 1, none⟩ = some (.int .i64 (fld q 1)) := cell_of_row Y _ 1 _ _ _ hXY
    have y2 : Y.cell? ⟨w.heap.size, 2, none⟩ = some (.int .i64 (fld q 2)) := cell_of_row Y _ 2 _ _ _ hXY
    have y3 : Y.cell? ⟨w.heap.size, 3, none⟩ = some (.int .i64 (fld q 3)) := cell_of_row Y _ 3 _ _ _ hXY
    have y4 : Y.cell? ⟨w.heap.size, 4, none⟩ = some (.int .i64 (fld q 4)) := cell_of_row Y _ 4 _ _ _ hXY
    have y5 : Y.cell? ⟨w.heap.size, 5, none⟩ = some (.int .i64 (fld q 5)) := cell_of_row Y _ 5 _ _ _ hXY
    have d4 := hGY.cell 4
    obtain ⟨hc, hf⟩ := hGY.er.cells hkl
    have l0 : Y.cell? ⟨g, k * 11, none⟩ = some (.int .i64 (fld (rec s.es k) 0)) := hc 0 (by omega)
    have l1 := hc 1 (by omega)
    have l2 := hc 2 (by omega)
    have l3 := hc 3 (by omega)
    have l4 := hc 4 (by omega)
    have l5 := hc 5 (by omega)
    have l6 := hc 6 (by omega)
    have l7 := hc 7 (by omega)
    have l8 := hc 8 (by omega)
    have l9 := hc 9 (by omega)
    have l10 := hc 10 (by omega)
    have f6 := hf (k * 11 + 6)
    have f7 := hf (k * 11 + 7)
    have f8 := hf (k * 11 + 8)
    have f9 := hf (k * 11 + 9)
    have HGY := hid hGY
    have HXY := hid hXY
    have HWS : Hid (∀ d x y t, whoK (s.es.set k (tellR (rec s.es k) d x y t)) (s.es.set k (tellR (rec s.es k) d x y t)).length = whoK s.es s.es.length) := fun d x y t => who_set (tell_id _ _ _ _ _)
    clear hc hf hGY hXY HGW HX HBW hbY
    by_cases h1 : fld q 1 = 1
    · have HD : Hid (doN s q k = goesR true s k (fld q 4) (fld q 5)) := by show _ = _; unfold doN; rw [if_pos h1]
      have b1 : (fld q 1 == 1) = true := by simpa using h1
      clear h1
      go_wp2_with fail
      refine (on_calls _ _ _).mono ?_
      rintro e w' ⟨rfl, rfl⟩
      cases hon : Pl.onB (fld q 4) (fld q 5)
      · have HE : Hid (ordN s q = s) := by show _ = _; rw [HC.out, HD.out]; unfold goesR; rw [hon]; rfl
        go_wp2
        go_end0
        exact ⟨rfl, by rw [HE.out]; exact ⟨_, HGY.out⟩, HBY.out⟩
      go_wp2_with fail
      refine (rule_newer_calls (rec s.es k) _).mono ?_
      rintro e w2 ⟨rfl, hb2⟩
      have hG3 := HGY.out.below hb2
      have hX3 := (hb2.block w.heap.size hsY).trans HXY.out
      have HB3 := hid (HBY.out.trans (hb2.mono (by omega)))
      have fr := field_rule2
      clear hb2 HGY HBY HXY l0 l1 l2 l3 l4 l5 l6 l7 l8 l9 l10 f6 f7 f8 f9 y0 y1 y2 y3 y4 y5 d4
      by_cases hsp : 0 < Pl.nSpeed (fld (rec s.es k) 2)
      case neg =>
        have HE : Hid (ordN s q = s) := by
          show _ = _
          rw [HC.out, HD.out]
          unfold goesR
          have e : fld (ruleL true (fld (rec s.es k) 2)) 2 = Pl.nSpeed (fld (rec s.es k) 2) := rfl
          rw [hon, e, decide_eq_false hsp]
          rfl
        have HG3 := hid hG3
        clear hG3 hX3
        go_wp2
        go_end0
        exact ⟨rfl, by rw [HE.out]; exact ⟨_, HG3.out⟩, HB3.out⟩
      have HE : Hid (ordN s q = { s with es := s.es.set k (tellR (rec s.es k) 1 (fld q 4) (fld q 5) 0) }) := by
        show _ = _
        rw [HC.out, HD.out]
        unfold goesR
        have e : fld (ruleL true (fld (rec s.es k) 2)) 2 = Pl.nSpeed (fld (rec s.es k) 2) := rfl
        rw [hon, e, decide_eq_true hsp]
        rfl
      obtain ⟨hc, hf⟩ := hG3.er.cells hkl
      have l6 := hc 6 (by omega)
      have l7 := hc 7 (by omega)
      have l8 := hc 8 (by omega)
      have l9 := hc 9 (by omega)
      have f6 := hf (k * 11 + 6)
      have f7 := hf (k * 11 + 7)
      have f8 := hf (k * 11 + 8)
      have f9 := hf (k * 11 + 9)
      have HG4 := hid (gmN_tell2 hG3 hkl (fld q 4) (fld q 5))
      have hG4' := gmN_tell hG3 hkl 1 0 0 0
      rw [← turnW_tell] at hG4'
      have hX4 : (turnW w2 g (k * 11) 1).heap[w.heap.size]? = some (.cells (ordC q) 98) := by
        unfold turnW
        rw [heap_setCell_other _ ⟨g, _, none⟩ w.heap.size _ (fun e => hgw e.symm), heap_setCell_other _ ⟨g, _, none⟩ w.heap.size _ (fun e => hgw e.symm), heap_setCell_other _ ⟨g, _, none⟩ w.heap.size _ (fun e => hgw e.symm), heap_setCell_other _ ⟨g, _, none⟩ w.heap.size _ (fun e => hgw e.symm)]
        exact hX3
      have HB4 : Hid (Below base w (((turnW w2 g (k * 11) 1).setCell ⟨g, k * 11 + 7, none⟩ (.int .i64 (fld q 4))).setCell ⟨g, k * 11 + 8, none⟩ (.int .i64 (fld q 5)))) := ((below_turnW (m := k * 11) (does := 1) HB3.out hbg).setCell (p := ⟨g, k * 11 + 7, none⟩) hbg _).setCell (p := ⟨g, k * 11 + 8, none⟩) hbg _
      clear hc hf hG3 hX3
      go_wp2_with fail
      refine (turnN_calls g (k * 11) 1 _ _ _ _ _ l6 l7 l8 l9 f6 f7 f8 f9).mono ?_
      rintro e w4 ⟨rfl, rfl⟩
      clear l6 l7 l8 l9 f6 f7 f8 f9
      obtain ⟨hc, hf⟩ := hG4'.er.cells (i := k) (by simpa using hkl)
      generalize turnW w2 g (k * 11) 1 = w4 at HG4 HB4 hX4 hc hf
      have m7 := hc 7 (by omega)
      have m8 := hc 8 (by omega)
      have fm7 := hf (k * 11 + 7)
      have fm8 := hf (k * 11 + 8)
      have y4 : w4.cell? ⟨w.heap.size, 4, none⟩ = some (.int .i64 (fld q 4)) := cell_of_row w4 _ 4 _ _ _ hX4
      have y5 : w4.cell? ⟨w.heap.size, 5, none⟩ = some (.int .i64 (fld q 5)) := cell_of_row w4 _ 5 _ _ _ hX4
      clear hc hf hG4' hX4
      go_wp2_with fail
      go_region
      all_goals
        go_wp2
        go_end0
        refine ⟨rfl, ?_, HB4.out.drew⟩
        rw [HE.out]
        exact ⟨_, gmN_who (HG4.out.below (Below.refl _ _).drew) (HWS.out _ _ _ _)⟩
    have b1 : (fld q 1 == 1) = false := by simpa using h1
    by_cases h2 : fld q 1 = 2
    · have HD : Hid (doN s q k = { s with es := aimP s.es k (fld q 3) (whoO s.es (fld q 3)) }) := by
        show _ = _
        rw [aimP_is]
        unfold doN
        rw [if_neg h1, if_pos h2]
      have b2 : (fld q 1 == 2) = true := by simpa using h2
      have HAI := hid (aimN_calls base p B g s.es.length c s (whoK s.es s.es.length) o k (fld q 3) (whoO s.es (fld q 3)) Y (by omega) hkl (fun j hj => whoO_lt hj) (whoO_look HUQ.out _) HGY.out)
      have HWA : Hid (whoK (aimP s.es k (fld q 3) (whoO s.es (fld q 3))) (aimP s.es k (fld q 3) (whoO s.es (fld q 3))).length = whoK s.es s.es.length) := by
        show _ = _
        unfold aimP
        split
        · rfl
        · split
          · rw [tell_aim]; exact who_set (tell_id _ _ _ _ _)
          · rfl
      clear h1 h2
      go_wp2_with fail
      refine HAI.out.mono ?_
      rintro e w4 ⟨rfl, hG4, hb4⟩
      have HG4 := hid hG4
      have HB4 := hid (HBY.out.trans hb4)
      clear hG4 hb4 l0 l1 l2 l3 l4 l5 l6 l7 l8 l9 l10 f6 f7 f8 f9 y0 y1 y2 y3 y4 y5 d4
      go_wp2
      go_end0
      refine ⟨rfl, ?_, HB4.out⟩
      rw [HC.out, HD.out]
      exact ⟨_, gmN_who HG4.out HWA.out⟩
    have b2 : (fld q 1 == 2) = false := by simpa using h2
    by_cases h3 : fld q 1 = 3
    · have HD : Hid (doN s q k = buildR true s (rec s.es k) (fld q 3) (fld q 4) (fld q 5)) := by show _ = _; unfold doN; rw [if_neg h1, if_neg h2, if_pos h3]
      have b3 : (fld q 1 == 3) = true := by simpa using h3
      have HRA : Hid (∀ n, Calls Try.prog 158 #[.pointer (some ⟨p, 0, none⟩), unitV (rec s.es k), ordV q] (Y.drewN n) fun e w' => e = .returned (.tuple #[]) ∧ GmNE base w' p B (buildR true s (rec s.es k) (fld q 3) (fld q 4) (fld q 5)) o ∧ Below base (Y.drewN n) w') := fun n => raiseN_calls base p B s o (rec s.es k) q _ HI.out (invN_on HI.out (rec_mem hkl)) (fun hk1 => by
        have ho := HI.out.ow _ (rec_mem hkl)
        unfold ownerE inZ at ho
        rw [if_neg (by omega), decide_eq_true_eq] at ho
        omega) ⟨_, HGY.out.below (below_drewN (Below.refl _ _) n)⟩
      clear h1 h2 h3
      go_wp2_with fail
      go_region_with (go_at_call 158; refine (HRA.out _).mono ?_; rintro e w4 ⟨rfl, hG4, hb4⟩; have HG4 := hid hG4; have HB4 : Hid (Below base Y w4) := ⟨hb4.os, hb4.tape, hb4.output, hb4.size, hb4.block⟩; clear hG4 hb4)
      all_goals
        clear l0 l1 l2 l3 l4 l5 l6 l7 l8 l9 l10 f6 f7 f8 f9 y0 y1 y2 y3 y4 y5 d4
        go_wp2
        go_end0
        refine ⟨rfl, ?_, HBY.out.trans HB4.out⟩
        rw [HC.out, HD.out]
        exact HG4.out
    have b3 : (fld q 1 == 3) = false := by simpa using h3
    by_cases h4 : fld q 1 = 4
    · have HD : Hid (doN s q k = stopR s k) := by show _ = _; unfold doN; rw [if_neg h1, if_neg h2, if_neg h3, if_pos h4]
      have b4 : (fld q 1 == 4) = true := by simpa using h4
      have hG4 := gmN_tell HGY.out hkl 0 0 0 0
      rw [← turnW_tell] at hG4
      have HG4 := hid hG4
      have HB4 := hid (below_turnW (m := k * 11) (does := 0) HBY.out hbg)
      clear h1 h2 h3 h4 hG4
      go_wp2_with fail
      refine (turnN_calls g (k * 11) 0 _ _ _ _ _ l6 l7 l8 l9 f6 f7 f8 f9).mono ?_
      rintro e w4 ⟨rfl, rfl⟩
      clear l0 l1 l2 l3 l4 l5 l6 l7 l8 l9 l10 f6 f7 f8 f9 y0 y1 y2 y3 y4 y5 d4
      go_wp2
      go_end0
      refine ⟨rfl, ?_, HB4.out⟩
      rw [HC.out, HD.out]
      exact ⟨_, gmN_who HG4.out (HWS.out _ _ _ _)⟩
    have b4 : (fld q 1 == 4) = false := by simpa using h4
    have HE : Hid (ordN s q = s) := by show _ = _; rw [HC.out]; unfold doN; rw [if_neg h1, if_neg h2, if_neg h3, if_neg h4]
    clear h1 h2 h3 h4
    go_wp2
    go_end0
    exact ⟨rfl, by rw [HE.out]; exact ⟨_, HGY.out⟩, HBY.out⟩
end Go.Proofs.Ytmnddahkbmlibaa
