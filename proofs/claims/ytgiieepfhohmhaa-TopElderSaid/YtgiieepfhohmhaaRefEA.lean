/- The reference's game: one is told to go, to aim. -/
import Derived.Test.YtgiieepfhohmhaaMemA
import Derived.Test.YtgiieepfhohmhaaRefBA
import Derived.Test.YtgiieepfhohmhaaHdA
namespace Go.Proofs.Ytgiieepfhohmhaa
open Go.RowKit Go.Maps

theorem rowU_recs {base : Nat} {w : World} {g n c : Nat} {us : List (List Int)} (h : RowU base w (.slice (some ⟨g, 0, none⟩) n c) us) : Recs w (some ⟨g, 0, none⟩) 11 us :=
  Or.inr ⟨g, 0, rfl, fun i hi j hj => by rw [Nat.zero_add]; exact (h.cells hi).1 j hj⟩
/- A unit of a row, in every world that has kept what was there. -/
theorem Recs.heldU {W : World} {g : Nat} {us : List (List Int)} (h : Recs W (some ⟨g, 0, none⟩) 11 us) {k : Nat} (hk : k < us.length) {t : List Int} (ht : rec us k = t) :
    ∀ j, j < 11 → ∀ w', Below W.heap.size W w' → w'.cell? ⟨g, k * 11 + j, none⟩ = some (.int .i64 (fld t j)) := fun j hj w' hb => by
  obtain ⟨b', o', hbo, hc⟩ := (h.below hb).at hk
  cases hbo
  have := hc j hj
  rw [Nat.zero_add] at this
  rw [← ht]
  exact this

set_option maxRecDepth 100000 in
set_option maxHeartbeats 4000000 in
theorem tell_calls (base p : Nat) (nw : Bool) (s : St) (i : Nat) (d x y t : Int) (w : World) (hi : i < s.es.length) (hn : s.es.length ≤ 1000) (h : GrE base w p nw s) :
    Calls Try.prog 91 #[.pointer (some ⟨p, 0, none⟩), .int .i64 i, .int .i64 d, .int .i64 x, .int .i64 y, .int .i64 t] w fun e w' => e = .returned (.tuple #[]) ∧ GrE base w' p nw { s with es := s.es.set i (tellR (rec s.es i) d x y t) } ∧ Below base w w' ∧ Fr w w' p := by
  obtain ⟨uv, fv, bv, hG⟩ := h
  obtain ⟨ea, c, rfl, hcap, _, hg0⟩ := hG.er.open
  obtain ⟨g, rfl, hbg, hgl⟩ := hg0 (by omega)
  obtain ⟨hc, hf⟩ := hG.er.cells hi
  have l6 := hc 6 (by omega)
  have l7 := hc 7 (by omega)
  have l8 := hc 8 (by omega)
  have l9 := hc 9 (by omega)
  have f6 := hf (i * 11 + 6)
  have f7 := hf (i * 11 + 7)
  have f8 := hf (i * 11 + 8)
  have f9 := hf (i * 11 + 9)
  have c6 : w.cell? ⟨p, 6, none⟩ = some (.slice (some ⟨g, 0, none⟩) s.es.length c) := hG.cell 6
  have hpg : p ≠ g := fun e => row_ne hG.er hG.hp (by decide) (by rw [e]; rfl)
  have HG2 : Hid (GrE base (tellW w g (i * 11) d x y t) p nw { s with es := s.es.set i (tellR (rec s.es i) d x y t) }) := ⟨_, _, _, gr_tell hG hi d x y t⟩
  have HB2 : Hid (Below base w (tellW w g (i * 11) d x y t)) := below_tellW (Below.refl _ _) hbg
  have HF2 : Hid (Fr w (tellW w g (i * 11) d x y t) p) := fr_tell hG hi d x y t
  have hiz : (i : Int) < (s.es.length : Int) := by omega
  have hiz0 : (0 : Int) ≤ (i : Int) := by omega
  clear hc hf hG hg0
  go_enter Try.func91, Try.ntmps91
  go_wp2
  go_end0
  exact ⟨rfl, HG2.out, HB2.out, HF2.out⟩

def goesR (nw : Bool) (s : St) (i : Nat) (x y : Int) : St :=
  if (Pl.onB x y && decide (0 < fld (ruleL nw (fld (rec s.es i) 2)) 2)) = true then { s with es := s.es.set i (tellR (rec s.es i) 1 x y 0) } else s

set_option maxRecDepth 100000 in
set_option maxHeartbeats 8000000 in
theorem goes_calls (base p : Nat) (nw : Bool) (s : St) (i : Nat) (x y : Int) (w : World) (hi : i < s.es.length) (hn : s.es.length ≤ 1000) (h : GrE base w p nw s) :
    Calls Try.prog 88 #[.pointer (some ⟨p, 0, none⟩), .int .i64 i, .int .i64 x, .int .i64 y] w fun e w' => e = .returned (.tuple #[]) ∧ GrE base w' p nw (goesR nw s i x y) ∧ Below base w w' ∧ Fr w w' p := by
  have HG := hid h
  obtain ⟨uv, fv, bv, hG⟩ := h
  have hbp := hG.bp
  obtain ⟨ea, c, rfl, hcap, _, hg0⟩ := hG.er.open
  obtain ⟨g, rfl, hbg, hgl⟩ := hg0 (by omega)
  have hlt := hG.lt
  have hiz : (i : Int) < (s.es.length : Int) := by omega
  have hiz0 : (0 : Int) ≤ (i : Int) := by omega
  have S6 : ∀ w', Below w.heap.size w w' → w'.cell? ⟨p, 6, none⟩ = some (.slice (some ⟨g, 0, none⟩) s.es.length c) := fun w' h => (h.cell (p := ⟨p, 6, none⟩) hlt).trans (hG.cell 6)
  have S0 : ∀ w', Below w.heap.size w w' → w'.cell? ⟨p, 0, none⟩ = some (.bool nw) := fun w' h => (h.cell (p := ⟨p, 0, none⟩) hlt).trans (hG.cell 0)
  have S2 := (rowU_recs hG.er).heldU hi rfl 2 (by omega)
  have HGO : Hid (goesR nw s i x y = if (Pl.onB x y && decide (0 < fld (ruleL nw (fld (rec s.es i) 2)) 2)) = true then { s with es := s.es.set i (tellR (rec s.es i) 1 x y 0) } else s) := rfl
  have HRK : Hid (∃ k, k = fld (rec s.es i) 2) := ⟨_, rfl⟩
  generalize hkk : fld (rec s.es i) 2 = k at S2 HGO
  clear hG hg0 hkk HRK
  go_enter Try.func88, Try.ntmps88
  go_wp2_with fail
  go_cut [8] (fun r wx => ∃ b, r = .pointer (some ⟨b, 0, none⟩) ∧ Hid (wx.heap[b]? = some (.cells (ruleCR nw k) 44) ∧ Below w.heap.size w wx))
  case first =>
    go_region_held3 (fun w' => Below w.heap.size w w') (first | (rw [six6_nest]; exact below_six6 (by assumption) (Nat.le_refl _)) | with_reducible exact (Below.refl _ _).drew | with_reducible exact HB2.out | exact Below.alloc (by assumption) (Below.size (by assumption)) _)
      (first
        | (go_at_call 27; refine (ruleB_calls nw k _).mono ?_; rintro e w2 ⟨rfl, hb2⟩; have hq : Box6 w2 w.heap.size := Box6.below (Box6.new w.drew) hb2; have HB2 : Hid (Below w.heap.size w w2) := Below.trans (by assumption) (hb2.mono (Below.size (by assumption))); have HQ := hid hq; obtain ⟨q0, q1, q2, q3, q4, q5, qf⟩ := hq.zero; clear hb2 hq)
        | (go_at_call 27; refine (ruleB_calls nw k _).mono ?_; rintro e w2 ⟨rfl, hb2⟩; have HB2 : Hid (Below w.heap.size w w2) := Below.trans (by assumption) (hb2.mono (Below.size (by assumption))); clear hb2))
    all_goals
      go_wp2
      go_meet
      first
        | exact ⟨_, rfl, Box6.fill HQ.out _ _ _ _ _ _, below_six6 HB2.out (Nat.le_refl _)⟩
        | exact ⟨_, rfl, heap_alloc_new _ _, HB2.out.alloc HB2.out.size _⟩
  case rest =>
    obtain ⟨b, rfl, HM⟩ := hcut
    have r2 : wc.cell? ⟨b, 2, none⟩ = some (.int .i64 (fld (ruleL nw k) 2)) := cell_of_row wc _ 2 _ _ _ HM.out.1
    have HGc := hid (HG.out.below HM.out.2)
    have HBc : Hid (Below base w wc) := HM.out.2.mono (by omega)
    have HFc : Hid (Fr w wc p) := Fr.below HM.out.2 hlt
    clear HM S6 S0 S2
    go_wp2_with fail
    refine (refOn_calls x y _).mono ?_
    rintro e w3 ⟨rfl, rfl⟩
    cases hon : Pl.onB x y with
    | false =>
      rw [hon, Bool.false_and] at HGO
      have HE : Hid (goesR nw s i x y = s) := HGO.out.trans (by simp)
      go_wp2
      go_end0
      exact ⟨rfl, by rw [HE.out]; exact HGc.out, HBc.out, HFc.out⟩
    | true =>
      rw [hon, Bool.true_and] at HGO
      by_cases hsp : 0 < fld (ruleL nw k) 2
      · have HE : Hid (goesR nw s i x y = { s with es := s.es.set i (tellR (rec s.es i) 1 x y 0) }) := HGO.out.trans (by rw [if_pos (by simpa using hsp)])
        go_wp2_with fail
        refine (tell_calls base p nw s i 1 x y 0 _ hi hn HGc.out).mono ?_
        rintro e w4 ⟨rfl, hG4, hb4, hf4⟩
        have HG4 := hid hG4
        have HB4 := hid (HBc.out.trans hb4)
        have HF4 := hid (HFc.out.trans hf4)
        clear hG4 hb4 hf4
        go_wp2
        go_end0
        exact ⟨rfl, by rw [HE.out]; exact HG4.out, HB4.out, HF4.out⟩
      · have HE : Hid (goesR nw s i x y = s) := HGO.out.trans (by rw [if_neg (by simpa using hsp)])
        go_wp2
        go_end0
        exact ⟨rfl, by rw [HE.out]; exact HGc.out, HBc.out, HFc.out⟩

def aimsR (nw : Bool) (s : St) (i : Nat) (t d : Int) : St :=
  if 0 ≤ whoZ t s.es ∧ 0 < d ∧ mayZ nw (rec s.es i) (rec s.es (whoZ t s.es).toNat) = d then { s with es := s.es.set i (tellR (rec s.es i) d 0 0 t) } else s
theorem whoZ_bd (id : Int) (us : List (List Int)) : -1 ≤ whoZ id us ∧ whoZ id us < us.length := by
  unfold whoZ
  cases h : us.findIdx? (fun r => fld r 0 == id) with
  | none => simp only; omega
  | some k =>
    have := (List.findIdx?_eq_some_iff_getElem.1 h).1
    simp only
    omega

set_option maxRecDepth 100000 in
set_option maxHeartbeats 8000000 in
theorem aims_calls (base p : Nat) (nw : Bool) (s : St) (i : Nat) (t d : Int) (w : World) (hi : i < s.es.length) (hn : s.es.length ≤ 1000) (h : GrE base w p nw s) :
    Calls Try.prog 89 #[.pointer (some ⟨p, 0, none⟩), .int .i64 i, .int .i64 t, .int .i64 d] w fun e w' => e = .returned (.tuple #[]) ∧ GrE base w' p nw (aimsR nw s i t d) ∧ Below base w w' ∧ Fr w w' p := by
  have HG := hid h
  obtain ⟨uv, fv, bv, hG⟩ := h
  have hbp := hG.bp
  obtain ⟨ea, c, rfl, hcap, _, hg0⟩ := hG.er.open
  obtain ⟨g, rfl, hbg, hgl⟩ := hg0 (by omega)
  have hlt := hG.lt
  have hiz : (i : Int) < (s.es.length : Int) := by omega
  have hiz0 : (0 : Int) ≤ (i : Int) := by omega
  have c6 : w.cell? ⟨p, 6, none⟩ = some (.slice (some ⟨g, 0, none⟩) s.es.length c) := hG.cell 6
  have S6 : ∀ w', Below w.heap.size w w' → w'.cell? ⟨p, 6, none⟩ = some (.slice (some ⟨g, 0, none⟩) s.es.length c) := fun w' h => (h.cell (p := ⟨p, 6, none⟩) hlt).trans (hG.cell 6)
  have S0 : ∀ w', Below w.heap.size w w' → w'.cell? ⟨p, 0, none⟩ = some (.bool nw) := fun w' h => (h.cell (p := ⟨p, 0, none⟩) hlt).trans (hG.cell 0)
  have HRC := hid (rowU_recs hG.er)
  have HWC := hid (who_calls p c (some ⟨g, 0, none⟩) s.es t w hn c6 HRC.out)
  have hwb := whoZ_bd t s.es
  have HAI : Hid (aimsR nw s i t d = if 0 ≤ whoZ t s.es ∧ 0 < d ∧ mayZ nw (rec s.es i) (rec s.es (whoZ t s.es).toNat) = d then { s with es := s.es.set i (tellR (rec s.es i) d 0 0 t) } else s) := rfl
  generalize whoZ t s.es = m at HWC HAI hwb
  obtain ⟨hm0, hm1⟩ := hwb
  clear hG hg0 c6
  go_enter Try.func89, Try.ntmps89
  go_wp2_with fail
  refine HWC.out.mono ?_
  rintro e w1 ⟨rfl, rfl⟩
  clear HWC
  by_cases hmn : 0 ≤ m
  case neg =>
    have HE : Hid (aimsR nw s i t d = s) := HAI.out.trans (by rw [if_neg (fun h => hmn h.1)])
    have bm : decide (0 ≤ m) = false := decide_eq_false hmn
    clear S6 S0 HAI
    go_wp2_with fail
    go_quiet (fail)
    go_wp2
    go_end0
    exact ⟨rfl, by rw [HE.out]; exact HG.out.below (below_drewN (Below.refl _ _) _), below_drewN (Below.refl _ _) _, Fr.below (below_drewN (Below.refl _ _) _) hlt⟩
  have bm : decide (0 ≤ m) = true := decide_eq_true hmn
  by_cases hd : 0 < d
  case neg =>
    have HE : Hid (aimsR nw s i t d = s) := HAI.out.trans (by rw [if_neg (fun h => hd h.2.1)])
    have bd : decide (0 < d) = false := decide_eq_false hd
    clear S6 S0 HAI
    go_wp2_with fail
    go_quiet (fail)
    go_wp2
    go_end0
    exact ⟨rfl, by rw [HE.out]; exact HG.out.below (below_drewN (Below.refl _ _) _), below_drewN (Below.refl _ _) _, Fr.below (below_drewN (Below.refl _ _) _) hlt⟩
  have bd : decide (0 < d) = true := decide_eq_true hd
  obtain ⟨k, rfl⟩ : ∃ k : Nat, m = k := ⟨m.toNat, by omega⟩
  have htn : ((k : Int)).toNat = k := by omega
  rw [htn] at HAI
  have hkl : k < s.es.length := by omega
  have KU := HRC.out.heldU hi rfl
  have KT := HRC.out.heldU hkl rfl
  generalize hru : rec s.es i = u at KU
  generalize hrt : rec s.es k = tt at KT
  have HRU := hid hru
  have HRT := hid hrt
  have a0 : ∀ w', Below w1.heap.size w1 w' → w'.cell? ⟨g, i * 11, none⟩ = some (.int .i64 (fld u 0)) := KU 0 (by omega)
  have a1 := KU 1 (by omega)
  have a2 := KU 2 (by omega)
  have a3 := KU 3 (by omega)
  have a4 := KU 4 (by omega)
  have a5 := KU 5 (by omega)
  have a6 := KU 6 (by omega)
  have a7 := KU 7 (by omega)
  have a8 := KU 8 (by omega)
  have a9 := KU 9 (by omega)
  have a10 := KU 10 (by omega)
  have b0 : ∀ w', Below w1.heap.size w1 w' → w'.cell? ⟨g, k * 11, none⟩ = some (.int .i64 (fld tt 0)) := KT 0 (by omega)
  have b1 := KT 1 (by omega)
  have b2 := KT 2 (by omega)
  have b3 := KT 3 (by omega)
  have b4 := KT 4 (by omega)
  have b5 := KT 5 (by omega)
  have b6 := KT 6 (by omega)
  have b7 := KT 7 (by omega)
  have b8 := KT 8 (by omega)
  have b9 := KT 9 (by omega)
  have b10 := KT 10 (by omega)
  clear KU KT hru hrt
  go_wp2_with fail
  go_cut [37] (fun r wx => r = .bool (mayZ nw u tt == d) ∧ Hid (Below w1.heap.size w1 wx))
  case first =>
    go_region_held3 (fun w' => Below w1.heap.size w1 w') (first | with_reducible exact (Below.refl _ _).drew | with_reducible exact HB2.out)
      (first
        | (go_at_call 100; refine (may_calls p nw u tt _ (S0 _ (by assumption)) (Nat.lt_of_lt_of_le hlt (Below.size (by assumption)))).mono ?_; rintro e w2 ⟨rfl, hb2⟩; have HB2 : Hid (Below w1.heap.size w1 w2) := Below.trans (by assumption) (hb2.mono (Below.size (by assumption))); clear hb2))
    all_goals
      go_wp2
      go_meet
      exact ⟨rfl, HB2⟩
  case rest =>
    obtain ⟨rfl, HBc⟩ := hcut
    clear a0 a1 a2 a3 a4 a5 a6 a7 a8 a9 a10 b0 b1 b2 b3 b4 b5 b6 b7 b8 b9 b10 S6 S0
    have HGc := hid (HG.out.below HBc.out)
    have HBb : Hid (Below base w1 wc) := HBc.out.mono (by omega)
    have HFb : Hid (Fr w1 wc p) := Fr.below HBc.out hlt
    rw [HRU.out, HRT.out] at HAI
    cases hmd : (mayZ nw u tt == d) with
    | true =>
      have HE : Hid (aimsR nw s i t d = { s with es := s.es.set i (tellR u d 0 0 t) }) := HAI.out.trans (by rw [if_pos ⟨hmn, hd, by simpa using hmd⟩])
      clear hmd
      go_wp2_with fail
      refine (tell_calls base p nw s i d 0 0 t _ hi hn HGc.out).mono ?_
      rintro e w4 ⟨rfl, hG4, hb4, hf4⟩
      rw [HRU.out] at hG4
      have HG4 := hid hG4
      have HB4 := hid (HBb.out.trans hb4)
      have HF4 := hid (HFb.out.trans hf4)
      clear hG4 hb4 hf4
      go_wp2
      go_end0
      exact ⟨rfl, by rw [HE.out]; exact HG4.out, HB4.out, HF4.out⟩
    | false =>
      have HE : Hid (aimsR nw s i t d = s) := HAI.out.trans (by rw [if_neg (fun h => by rw [h.2.2] at hmd; simp at hmd)])
      clear hmd
      go_wp2
      go_end0
      exact ⟨rfl, by rw [HE.out]; exact HGc.out, HBb.out, HFb.out⟩
end Go.Proofs.Ytgiieepfhohmhaa

/- The reference's game: near; what one wishes. -/
namespace Go.Proofs.Ytgiieepfhohmhaa
open Go.RowKit Go.Maps

/- What of a game is read: of which kind it is, and its units. -/
structure RG (w : World) (p : Nat) (nw : Bool) (ua : Option Addr) (uc : Nat) (us : List (List Int)) : Prop where
  n0 : w.cell? ⟨p, 0, none⟩ = some (.bool nw)
  u6 : w.cell? ⟨p, 6, none⟩ = some (.slice ua us.length uc)
  rs : Recs w ua 11 us
  len : us.length ≤ 1000
theorem RG.lt {w : World} {p : Nat} {nw : Bool} {ua : Option Addr} {uc : Nat} {us : List (List Int)} (h : RG w p nw ua uc us) : p < w.heap.size := World.block_lt_of_cell? w _ h.n0
theorem RG.below {w w' : World} {p : Nat} {nw : Bool} {ua : Option Addr} {uc : Nat} {us : List (List Int)} (h : RG w p nw ua uc us) (hb : Below w.heap.size w w') : RG w' p nw ua uc us :=
  ⟨(hb.cell (p := ⟨p, 0, none⟩) h.lt).trans h.n0, (hb.cell (p := ⟨p, 6, none⟩) h.lt).trans h.u6, h.rs.below hb, h.len⟩
def tgtR (us : List (List Int)) (u : List Int) : List Int := rec us (whoZ (fld u 9) us).toNat
def nearR (nw : Bool) (us : List (List Int)) (u : List Int) : Bool :=
  ((fld u 6 == 3) && decide (Pl.farZ (fld u 3) (fld u 4) (fld (tgtR us u) 3) (fld (tgtR us u) 4) ≤ 1)) || ((fld u 6 == 2) && decide (Pl.farZ (fld u 3) (fld u 4) (fld (tgtR us u) 3) (fld (tgtR us u) 4) ≤ fld (ruleL nw (fld u 2)) 4))

theorem unit_box {w : World} {b : Nat} {u : List Int} (h : w.heap[b]? = some (.cells (unitC u) 110)) : ∀ j, w.cell? ⟨b, j, none⟩ = (unitC u)[j]? := fun j => cell_of_row w b j _ _ _ h

set_option maxRecDepth 100000 in
set_option maxHeartbeats 8000000 in
theorem refNear_calls (p : Nat) (nw : Bool) (ua : Option Addr) (uc : Nat) (us : List (List Int)) (u : List Int) (w : World) (h : RG w p nw ua uc us) (hu : OnU u) (hw : 0 ≤ whoZ (fld u 9) us) (ht : OnU (tgtR us u)) :
    Calls Try.prog 184 #[.pointer (some ⟨p, 0, none⟩), unitV u] w fun e w' => e = .returned (.bool (nearR nw us u)) ∧ Below w.heap.size w w' := by
  obtain ⟨W, hW⟩ : ∃ W, w.alloc (.cells (unitC u) 110) = W := ⟨_, rfl⟩
  have hbW : Below w.heap.size w W := by rw [← hW]; exact (Below.refl _ w).alloc (Nat.le_refl _) _
  have hhW : W.heap[w.heap.size]? = some (.cells (unitC u) 110) := by rw [← hW]; exact heap_alloc_new _ _
  have hsW : W.heap.size = w.heap.size + 1 := by rw [← hW]; simp [go_sem]
  have hRW := h.below hbW
  have hlen := h.len
  have hwb := whoZ_bd (fld u 9) us
  obtain ⟨k, hk⟩ : ∃ k : Nat, whoZ (fld u 9) us = k := ⟨(whoZ (fld u 9) us).toNat, by omega⟩
  have hkl : k < us.length := by omega
  obtain ⟨b, o, rfl, _⟩ := hRW.rs.at hkl
  have HRW := hid hRW
  have htg : tgtR us u = rec us k := by unfold tgtR; rw [hk]; rfl
  have HNR : Hid (∀ t, tgtR us u = t → nearR nw us u = (((fld u 6 == 3) && decide (Pl.farZ (fld u 3) (fld u 4) (fld t 3) (fld t 4) ≤ 1)) || ((fld u 6 == 2) && decide (Pl.farZ (fld u 3) (fld u 4) (fld t 3) (fld t 4) ≤ fld (ruleL nw (fld u 2)) 4)))) := fun t h => by unfold nearR; rw [h]
  have hN := HNR.out _ htg
  rw [htg] at ht
  generalize htt : rec us k = t at hN ht
  have HN := hid hN
  have HT := hid ht
  have HTT := hid htt
  have HU := hid hu
  have HW0 : Hid (∀ W', Below W.heap.size W W' → Calls Try.prog 87 #[.pointer (some ⟨p, 0, none⟩), .int .i64 (fld u 9)] W' fun e w' => e = .returned (.int .i64 k) ∧ w' = W') := fun W' hb' => by
    have h' := who_calls p uc (some ⟨b, o, none⟩) us (fld u 9) W' hlen (HRW.out.below hb').u6 (HRW.out.below hb').rs
    rw [hk] at h'
    exact h'
  have S6 : ∀ w', Below W.heap.size W w' → w'.cell? ⟨p, 6, none⟩ = some (.slice (some ⟨b, o, none⟩) us.length uc) := fun w' hb' => (HRW.out.below hb').u6
  have x9 : ∀ w', Below W.heap.size W w' → w'.cell? ⟨w.heap.size, 9, none⟩ = some (.int .i64 (fld u 9)) := fun w' hb' => unit_box ((hb'.block _ (by omega)).trans hhW) 9
  have KT : ∀ j, j < 11 → ∀ w', Below W.heap.size W w' → w'.cell? ⟨b, o + k * 11 + j, none⟩ = some (.int .i64 (fld t j)) := fun j hj w' hb' => by
    obtain ⟨b', o', e', hc'⟩ := (HRW.out.below hb').rs.at hkl
    cases e'
    have := hc' j hj
    rw [HTT.out] at this
    exact this
  have b0 : ∀ w', Below W.heap.size W w' → w'.cell? ⟨b, o + k * 11, none⟩ = some (.int .i64 (fld t 0)) := KT 0 (by omega)
  have b1 := KT 1 (by omega)
  have b2 := KT 2 (by omega)
  have b3 := KT 3 (by omega)
  have b4 := KT 4 (by omega)
  have b5 := KT 5 (by omega)
  have b6 := KT 6 (by omega)
  have b7 := KT 7 (by omega)
  have b8 := KT 8 (by omega)
  have b9 := KT 9 (by omega)
  have b10 := KT 10 (by omega)
  have HBW := hid hbW
  have HSW := hid hsW
  have HHW := hid hhW
  have hkz : (k : Int) < (us.length : Int) := by omega
  have hkz0 : (0 : Int) ≤ (k : Int) := by omega
  clear KT h hRW hbW hsW hhW hN ht htt hu htg HNR hk hw hwb
  go_enter Try.func184, Try.ntmps184
  go_wp2_with fail
  clear hW
  go_cut [5] (fun r wx => ∃ q, r = .pointer (some ⟨q, 0, none⟩) ∧ Hid (wx.heap[q]? = some (.cells (unitC t) 110) ∧ W.heap.size ≤ q ∧ Below W.heap.size W wx))
  case first =>
    go_region_held3 (fun w' => Below W.heap.size W w') (first | with_reducible exact (Below.refl _ _).drew | assumption | exact Below.drew (Below.alloc (Below.refl _ _) (Nat.le_refl _) _) | exact Below.alloc (by assumption) (Below.size (by assumption)) _)
      (first
        | (go_at_call 87; refine (HW0.out _ (by assumption)).mono ?_; rintro e w2 ⟨rfl, rfl⟩))
    all_goals
      go_wp2
      go_meet
      exact ⟨_, rfl, heap_alloc_new W _, Nat.le_refl _, ((Below.refl _ _).alloc (Nat.le_refl _) _).drew⟩
  case rest =>
    obtain ⟨q, rfl, HM⟩ := hcut
    obtain ⟨X, hX⟩ : ∃ X, X = wc := ⟨_, rfl⟩
    subst hX
    clear b0 b1 b2 b3 b4 b5 b6 b7 b8 b9 b10 S6 x9 HW0
    have hRX := HRW.out.below HM.out.2.2
    have hqX : q < X.heap.size := (Array.getElem?_eq_some_iff.1 HM.out.1).1
    have hwX : w.heap.size < X.heap.size := Nat.lt_of_lt_of_le (by rw [HSW.out]; omega) HM.out.2.2.size
    have hhX : X.heap[w.heap.size]? = some (.cells (unitC u) 110) := (HM.out.2.2.block _ (by rw [HSW.out]; omega)).trans HHW.out
    have KX : ∀ j w', Below X.heap.size X w' → w'.cell? ⟨w.heap.size, j, none⟩ = (unitC u)[j]? := fun j w' hb' => unit_box ((hb'.block _ hwX).trans hhX) j
    have KQ : ∀ j w', Below X.heap.size X w' → w'.cell? ⟨q, j, none⟩ = (unitC t)[j]? := fun j w' hb' => unit_box ((hb'.block _ hqX).trans HM.out.1) j
    have x2 : ∀ w', Below X.heap.size X w' → w'.cell? ⟨w.heap.size, 2, none⟩ = some (.int .i64 (fld u 2)) := KX 2
    have K0 : ∀ w', Below X.heap.size X w' → w'.cell? ⟨p, 0, none⟩ = some (.bool nw) := fun w' hb' => (hRX.below hb').n0
    have HBX : Hid (Below w.heap.size w X) := HBW.out.trans (HM.out.2.2.mono (by rw [HSW.out]; omega))
    have HKX := hid KX
    have HKQ := hid KQ
    clear KX KQ HM hRX hhX
    go_wp2_with fail
    go_cut [6] (fun r wx => ∃ b, r = .pointer (some ⟨b, 0, none⟩) ∧ Hid (wx.heap[b]? = some (.cells (ruleCR nw (fld u 2)) 44) ∧ Below X.heap.size X wx))
    case first =>
      go_region_held3 (fun w' => Below X.heap.size X w') (first | (rw [six6_nest]; exact below_six6 (by assumption) (Nat.le_refl _)) | with_reducible exact (Below.refl _ _).drew | with_reducible exact HB2.out | exact Below.alloc (by assumption) (Below.size (by assumption)) _)
        (first
          | (go_at_call 27; refine (ruleB_calls nw (fld u 2) _).mono ?_; rintro e w2 ⟨rfl, hb2⟩; have hq : Box6 w2 X.heap.size := Box6.below (Box6.new X.drew) hb2; have HB2 : Hid (Below X.heap.size X w2) := Below.trans (by assumption) (hb2.mono (Below.size (by assumption))); have HQ := hid hq; obtain ⟨q0, q1, q2, q3, q4, q5, qf⟩ := hq.zero; clear hb2 hq)
          | (go_at_call 27; refine (ruleB_calls nw (fld u 2) _).mono ?_; rintro e w2 ⟨rfl, hb2⟩; have HB2 : Hid (Below X.heap.size X w2) := Below.trans (by assumption) (hb2.mono (Below.size (by assumption))); clear hb2))
      all_goals
        go_wp2
        go_meet
        first
          | exact ⟨_, rfl, Box6.fill HQ.out _ _ _ _ _ _, below_six6 HB2.out (Nat.le_refl _)⟩
          | exact ⟨_, rfl, heap_alloc_new _ _, HB2.out.alloc HB2.out.size _⟩
    case rest =>
      obtain ⟨b', rfl, HM⟩ := hcut
      have r4 : wc.cell? ⟨b', 4, none⟩ = some (.int .i64 (fld (ruleL nw (fld u 2)) 4)) := cell_of_row wc _ 4 _ _ _ HM.out.1
      have y3 : wc.cell? ⟨w.heap.size, 3, none⟩ = some (.int .i64 (fld u 3)) := HKX.out 3 wc HM.out.2
      have y4 : wc.cell? ⟨w.heap.size, 4, none⟩ = some (.int .i64 (fld u 4)) := HKX.out 4 wc HM.out.2
      have y6 : wc.cell? ⟨w.heap.size, 6, none⟩ = some (.int .i64 (fld u 6)) := HKX.out 6 wc HM.out.2
      have z3 : wc.cell? ⟨q, 3, none⟩ = some (.int .i64 (fld t 3)) := HKQ.out 3 wc HM.out.2
      have z4 : wc.cell? ⟨q, 4, none⟩ = some (.int .i64 (fld t 4)) := HKQ.out 4 wc HM.out.2
      have HBF : Hid (Below w.heap.size w wc) := HBX.out.trans (HM.out.2.mono (by omega))
      clear HM HKX HKQ x2 K0
      go_wp2_with fail
      refine (refFar_calls _ _ _ _ HU.out HT.out _).mono ?_
      rintro e w3 ⟨rfl, rfl⟩
      generalize Pl.farZ (fld u 3) (fld u 4) (fld t 3) (fld t 4) = D at HN ⊢
      generalize fld (ruleL nw (fld u 2)) 4 = RR at HN r4
      cases h3 : (fld u 6 == 3) with
      | true =>
        have h2 : (fld u 6 == 2) = false := by
          have : fld u 6 = 3 := by simpa using h3
          rw [this]; rfl
        rw [h3, h2] at HN
        by_cases hd : D ≤ 1
        · have HE : Hid (nearR nw us u = true) := HN.out.trans (by simp [hd])
          have bd : decide (D ≤ 1) = true := decide_eq_true hd
          go_wp2
          go_ret
          exact ⟨retB HE.out.symm, HBF.out⟩
        · have HE : Hid (nearR nw us u = false) := HN.out.trans (by simp [hd])
          have bd : decide (D ≤ 1) = false := decide_eq_false hd
          go_wp2
          go_ret
          exact ⟨retB HE.out.symm, HBF.out⟩
      | false =>
        rw [h3] at HN
        cases h2 : (fld u 6 == 2) with
        | true =>
          rw [h2] at HN
          by_cases hd : D ≤ RR
          · have HE : Hid (nearR nw us u = true) := HN.out.trans (by simp [hd])
            have bd : decide (D ≤ RR) = true := decide_eq_true hd
            go_wp2
            go_ret
            exact ⟨retB HE.out.symm, HBF.out⟩
          · have HE : Hid (nearR nw us u = false) := HN.out.trans (by simp [hd])
            have bd : decide (D ≤ RR) = false := decide_eq_false hd
            go_wp2
            go_ret
            exact ⟨retB HE.out.symm, HBF.out⟩
        | false =>
          rw [h2] at HN
          have HE : Hid (nearR nw us u = false) := HN.out.trans (by simp)
          go_wp2
          go_ret
          exact ⟨retB HE.out.symm, HBF.out⟩
end Go.Proofs.Ytgiieepfhohmhaa

/- The reference's game: what one wishes. -/
namespace Go.Proofs.Ytgiieepfhohmhaa
open Go.RowKit Go.Maps

def destX (us : List (List Int)) (u : List Int) : Int := if 1 < fld u 6 then fld (tgtR us u) 3 else fld u 7
def destY (us : List (List Int)) (u : List Int) : Int := if 1 < fld u 6 then fld (tgtR us u) 4 else fld u 8
def restR (nw : Bool) (us : List (List Int)) (u : List Int) : Bool := (fld u 6 == 0) || ((fld (ruleL nw (fld u 2)) 2 == 0) || (decide (1 < fld u 6) && nearR nw us u))
def wishV (nw : Bool) (us : List (List Int)) (u : List Int) : Int × Int × Bool :=
  if restR nw us u = true then (0, 0, false) else (Pl.nearZ (fld u 3) (destX us u), Pl.nearZ (fld u 4) (destY us u), (Pl.nearZ (fld u 3) (destX us u) != fld u 3) || (Pl.nearZ (fld u 4) (destY us u) != fld u 4))
/- What a wish leans on. -/
structure WishOk (us : List (List Int)) (u : List Int) : Prop where
  on : OnU u
  aim : 1 < fld u 6 → 0 ≤ whoZ (fld u 9) us ∧ OnU (tgtR us u)
  go : fld u 6 ≠ 0 → ¬ 1 < fld u 6 → (0 ≤ fld u 7 ∧ fld u 7 < 12) ∧ 0 ≤ fld u 8 ∧ fld u 8 < 12

theorem retW {r : Int × Int × Bool} {a b : Int} {c : Bool} (h : r = (a, b, c)) : Ending.returned (.tuple #[.int .i64 a, .int .i64 b, .bool c]) = .returned (.tuple #[.int .i64 r.1, .int .i64 r.2.1, .bool r.2.2]) := by rw [h]
set_option maxRecDepth 100000 in
set_option maxHeartbeats 8000000 in
theorem refWish_calls (p : Nat) (nw : Bool) (ua : Option Addr) (uc : Nat) (us : List (List Int)) (u : List Int) (w : World) (h : RG w p nw ua uc us) (hk : WishOk us u) :
    Calls Try.prog 142 #[.pointer (some ⟨p, 0, none⟩), unitV u] w fun e w' => e = .returned (.tuple #[.int .i64 (wishV nw us u).1, .int .i64 (wishV nw us u).2.1, .bool (wishV nw us u).2.2]) ∧ Below w.heap.size w w' := by
  obtain ⟨W, hW⟩ : ∃ W, w.alloc (.cells (unitC u) 110) = W := ⟨_, rfl⟩
  have hbW : Below w.heap.size w W := by rw [← hW]; exact (Below.refl _ w).alloc (Nat.le_refl _) _
  have hhW : W.heap[w.heap.size]? = some (.cells (unitC u) 110) := by rw [← hW]; exact heap_alloc_new _ _
  have hsW : W.heap.size = w.heap.size + 1 := by rw [← hW]; simp [go_sem]
  have hRW := h.below hbW
  have hlen := h.len
  have HRW := hid hRW
  have HOK := hid hk
  have KX : ∀ j w', Below W.heap.size W w' → w'.cell? ⟨w.heap.size, j, none⟩ = (unitC u)[j]? := fun j w' hb' => unit_box ((hb'.block _ (by omega)).trans hhW) j
  have x2 : ∀ w', Below W.heap.size W w' → w'.cell? ⟨w.heap.size, 2, none⟩ = some (.int .i64 (fld u 2)) := KX 2
  have K0 : ∀ w', Below W.heap.size W w' → w'.cell? ⟨p, 0, none⟩ = some (.bool nw) := fun w' hb' => (hRW.below hb').n0
  have HKX := hid KX
  have HBW := hid hbW
  have HSW := hid hsW
  have HHW := hid hhW
  have HV : Hid (∀ r, wishV nw us u = r → wishV nw us u = r) := fun _ h => h
  clear h hk hRW hbW hsW hhW KX HV
  go_enter Try.func142, Try.ntmps142
  go_wp2_with fail
  clear hW
  go_cut [7] (fun r wx => ∃ b, r = .pointer (some ⟨b, 0, none⟩) ∧ Hid (wx.heap[b]? = some (.cells (ruleCR nw (fld u 2)) 44) ∧ Below W.heap.size W wx))
  case first =>
    go_region_held3 (fun w' => Below W.heap.size W w') (first | (rw [six6_nest]; exact below_six6 (by assumption) (Nat.le_refl _)) | with_reducible exact (Below.refl _ _).drew | with_reducible exact HB2.out | exact Below.alloc (by assumption) (Below.size (by assumption)) _)
      (first
        | (go_at_call 27; refine (ruleB_calls nw (fld u 2) _).mono ?_; rintro e w2 ⟨rfl, hb2⟩; have hq : Box6 w2 W.heap.size := Box6.below (Box6.new W.drew) hb2; have HB2 : Hid (Below W.heap.size W w2) := Below.trans (by assumption) (hb2.mono (Below.size (by assumption))); have HQ := hid hq; obtain ⟨q0, q1, q2, q3, q4, q5, qf⟩ := hq.zero; clear hb2 hq)
        | (go_at_call 27; refine (ruleB_calls nw (fld u 2) _).mono ?_; rintro e w2 ⟨rfl, hb2⟩; have HB2 : Hid (Below W.heap.size W w2) := Below.trans (by assumption) (hb2.mono (Below.size (by assumption))); clear hb2))
    all_goals
      go_wp2
      go_meet
      first
        | exact ⟨_, rfl, Box6.fill HQ.out _ _ _ _ _ _, below_six6 HB2.out (Nat.le_refl _)⟩
        | exact ⟨_, rfl, heap_alloc_new _ _, HB2.out.alloc HB2.out.size _⟩
  case rest =>
    obtain ⟨b', rfl, HM⟩ := hcut
    obtain ⟨X, hX⟩ : ∃ X, X = wc := ⟨_, rfl⟩
    subst hX
    have r2 : X.cell? ⟨b', 2, none⟩ = some (.int .i64 (fld (ruleL nw (fld u 2)) 2)) := cell_of_row X _ 2 _ _ _ HM.out.1
    have HBX := hid HM.out.2
    have HBF : Hid (Below w.heap.size w X) := HBW.out.trans (HM.out.2.mono (by rw [HSW.out]; omega))
    have y0 : X.cell? ⟨w.heap.size, 0, none⟩ = some (.int .i64 (fld u 0)) := HKX.out 0 X HM.out.2
    have y1 : X.cell? ⟨w.heap.size, 1, none⟩ = some (.int .i64 (fld u 1)) := HKX.out 1 X HM.out.2
    have y2 : X.cell? ⟨w.heap.size, 2, none⟩ = some (.int .i64 (fld u 2)) := HKX.out 2 X HM.out.2
    have y3 : X.cell? ⟨w.heap.size, 3, none⟩ = some (.int .i64 (fld u 3)) := HKX.out 3 X HM.out.2
    have y4 : X.cell? ⟨w.heap.size, 4, none⟩ = some (.int .i64 (fld u 4)) := HKX.out 4 X HM.out.2
    have y5 : X.cell? ⟨w.heap.size, 5, none⟩ = some (.int .i64 (fld u 5)) := HKX.out 5 X HM.out.2
    have y6 : X.cell? ⟨w.heap.size, 6, none⟩ = some (.int .i64 (fld u 6)) := HKX.out 6 X HM.out.2
    have y7 : X.cell? ⟨w.heap.size, 7, none⟩ = some (.int .i64 (fld u 7)) := HKX.out 7 X HM.out.2
    have y8 : X.cell? ⟨w.heap.size, 8, none⟩ = some (.int .i64 (fld u 8)) := HKX.out 8 X HM.out.2
    have y9 : X.cell? ⟨w.heap.size, 9, none⟩ = some (.int .i64 (fld u 9)) := HKX.out 9 X HM.out.2
    have y10 : X.cell? ⟨w.heap.size, 10, none⟩ = some (.int .i64 (fld u 10)) := HKX.out 10 X HM.out.2
    clear HM x2 K0
    rcases tf (fld u 6 == 0) (tf (fld (ruleL nw (fld u 2)) 2 == 0) trivial) with h6 | ⟨h6, hs | ⟨hs, _⟩⟩
    · have HE : Hid (wishV nw us u = (0, 0, false)) := by show _ = _; unfold wishV restR; rw [h6]; simp
      go_wp2
      go_ret3
      exact ⟨retW HE.out, HBF.out⟩
    · have HE : Hid (wishV nw us u = (0, 0, false)) := by show _ = _; unfold wishV restR; rw [hs]; simp
      go_wp2
      go_ret3
      exact ⟨retW HE.out, HBF.out⟩
    · by_cases hd : 1 < fld u 6
      · have hd2 : decide (1 < fld u 6) = true := decide_eq_true hd
        have HA := hid (HOK.out.aim hd)
        have hRX := HRW.out.below HBX.out
        go_wp2_with fail
        refine (refNear_calls p nw ua uc us u X hRX HOK.out.on HA.out.1 HA.out.2).mono ?_
        rintro e X2 ⟨rfl, hb2⟩
        have HB2 : Hid (Below W.heap.size W X2) := HBX.out.trans (hb2.mono HBX.out.size)
        have HBF2 : Hid (Below w.heap.size w X2) := HBF.out.trans (hb2.mono HBF.out.size)
        clear hRX hb2
        cases hn : nearR nw us u with
        | true =>
          have HE : Hid (wishV nw us u = (0, 0, false)) := by show _ = _; unfold wishV restR; rw [hn, hd2]; simp
          go_wp2
          go_ret3
          exact ⟨retW HE.out, HBF2.out⟩
        | false =>
          have hRW2 := HRW.out.below HB2.out
          have HRG := hid hRW2
          have hwb := whoZ_bd (fld u 9) us
          obtain ⟨k, hk⟩ : ∃ k : Nat, whoZ (fld u 9) us = k := ⟨(whoZ (fld u 9) us).toNat, by have := HA.out.1; omega⟩
          have hkl : k < us.length := by have := hwb; omega
          obtain ⟨b, o, rfl, _⟩ := hRW2.rs.at hkl
          have htg : tgtR us u = rec us k := by unfold tgtR; rw [hk]; rfl
          have HE0 : Hid (wishV nw us u = (Pl.nearZ (fld u 3) (fld (tgtR us u) 3), Pl.nearZ (fld u 4) (fld (tgtR us u) 4), (Pl.nearZ (fld u 3) (fld (tgtR us u) 3) != fld u 3) || (Pl.nearZ (fld u 4) (fld (tgtR us u) 4) != fld u 4))) := by
            show _ = _
            unfold wishV restR destX destY
            rw [h6, hs, hd2, hn, if_pos hd, if_pos hd]
            rfl
          have HT0 := hid HA.out.2
          rw [htg] at HE0 HT0
          generalize htt : rec us k = t at HE0 HT0
          have HTT := hid htt
          have HW0 : Hid (∀ W', Below X2.heap.size X2 W' → Calls Try.prog 87 #[.pointer (some ⟨p, 0, none⟩), .int .i64 (fld u 9)] W' fun e w' => e = .returned (.int .i64 k) ∧ w' = W') := fun W' hb' => by
            have h' := who_calls p uc (some ⟨b, o, none⟩) us (fld u 9) W' hlen (HRG.out.below hb').u6 (HRG.out.below hb').rs
            rw [hk] at h'
            exact h'
          have S6 : ∀ w', Below X2.heap.size X2 w' → w'.cell? ⟨p, 6, none⟩ = some (.slice (some ⟨b, o, none⟩) us.length uc) := fun w' hb' => (HRG.out.below hb').u6
          have KX2 : ∀ j w', Below X2.heap.size X2 w' → w'.cell? ⟨w.heap.size, j, none⟩ = (unitC u)[j]? := fun j w' hb' => HKX.out j w' (HB2.out.trans (hb'.mono HB2.out.size))
          have x9 : ∀ w', Below X2.heap.size X2 w' → w'.cell? ⟨w.heap.size, 9, none⟩ = some (.int .i64 (fld u 9)) := KX2 9
          have KT : ∀ j, j < 11 → ∀ w', Below X2.heap.size X2 w' → w'.cell? ⟨b, o + k * 11 + j, none⟩ = some (.int .i64 (fld t j)) := fun j hj w' hb' => by
            obtain ⟨b', o', e', hc'⟩ := (HRG.out.below hb').rs.at hkl
            cases e'
            have := hc' j hj
            rw [HTT.out] at this
            exact this
          have b0 : ∀ w', Below X2.heap.size X2 w' → w'.cell? ⟨b, o + k * 11, none⟩ = some (.int .i64 (fld t 0)) := KT 0 (by omega)
          have b1 := KT 1 (by omega)
          have b2 := KT 2 (by omega)
          have b3 := KT 3 (by omega)
          have b4 := KT 4 (by omega)
          have b5 := KT 5 (by omega)
          have b6 := KT 6 (by omega)
          have b7 := KT 7 (by omega)
          have b8 := KT 8 (by omega)
          have b9 := KT 9 (by omega)
          have b10 := KT 10 (by omega)
          have HK2 := hid KX2
          have hkz : (k : Int) < (us.length : Int) := by omega
          have hkz0 : (0 : Int) ≤ (k : Int) := by omega
          clear KT hRW2 htg htt hwb hk HA KX2 y0 y1 y2 y3 y4 y5 y6 y7 y8 y9 y10 r2 HKX
          go_wp2_with fail
          go_cut [12] (fun r wx => ∃ q, r = .pointer (some ⟨q, 0, none⟩) ∧ Hid (wx.heap[q]? = some (.cells (unitC t) 110) ∧ X2.heap.size ≤ q ∧ Below X2.heap.size X2 wx))
          case first =>
            go_region_held3 (fun w' => Below X2.heap.size X2 w') (first | with_reducible exact (Below.refl _ _).drew | assumption | exact Below.drew (Below.alloc (Below.refl _ _) (Nat.le_refl _) _) | exact Below.alloc (by assumption) (Below.size (by assumption)) _)
              (first
                | (go_at_call 87; refine (HW0.out _ (by assumption)).mono ?_; rintro e w2 ⟨rfl, rfl⟩))
            all_goals
              go_wp2
              go_meet
              exact ⟨_, rfl, heap_alloc_new X2 _, Nat.le_refl _, ((Below.refl _ _).alloc (Nat.le_refl _) _).drew⟩
          case rest =>
            obtain ⟨q, rfl, HM⟩ := hcut
            obtain ⟨Y, hY⟩ : ∃ Y, Y = wc := ⟨_, rfl⟩
            subst hY
            have HBY : Hid (Below w.heap.size w Y) := HBF2.out.trans (HM.out.2.2.mono HBF2.out.size)
            have y3 : Y.cell? ⟨w.heap.size, 3, none⟩ = some (.int .i64 (fld u 3)) := HK2.out 3 Y HM.out.2.2
            have y4 : Y.cell? ⟨w.heap.size, 4, none⟩ = some (.int .i64 (fld u 4)) := HK2.out 4 Y HM.out.2.2
            have z3 : Y.cell? ⟨q, 3, none⟩ = some (.int .i64 (fld t 3)) := unit_box HM.out.1 3
            have z4 : Y.cell? ⟨q, 4, none⟩ = some (.int .i64 (fld t 4)) := unit_box HM.out.1 4
            clear b0 b1 b2 b3 b4 b5 b6 b7 b8 b9 b10 S6 x9 HW0 HM HK2
            go_wp2_with fail
            refine (refToward_calls _ _ _ _ HOK.out.on HT0.out _).mono ?_
            rintro e w3 ⟨rfl, rfl⟩
            have HE := HE0
            clear HE0
            generalize Pl.nearZ (fld u 3) (fld t 3) = NX at HE ⊢
            generalize Pl.nearZ (fld u 4) (fld t 4) = NY at HE ⊢
            cases e1 : (NX != fld u 3) with
            | true =>
              rw [e1] at HE
              go_wp2_with fail
              go_quiet (fail)
              all_goals
                go_wp2
                go_ret3
                exact ⟨retW HE.out, below_drewN HBY.out nq⟩
            | false =>
              rw [e1] at HE
              go_wp2_with fail
              go_quiet (fail)
              all_goals
                go_wp2
                go_ret3
                exact ⟨retW HE.out, below_drewN HBY.out nq⟩
      · have hd2 : decide (1 < fld u 6) = false := decide_eq_false hd
        have HG := hid (HOK.out.go (by simpa using h6) hd)
        go_wp2_with fail
        refine (refToward_calls _ _ _ _ HOK.out.on HG.out _).mono ?_
        rintro e w3 ⟨rfl, rfl⟩
        have HE : Hid (wishV nw us u = (Pl.nearZ (fld u 3) (fld u 7), Pl.nearZ (fld u 4) (fld u 8), (Pl.nearZ (fld u 3) (fld u 7) != fld u 3) || (Pl.nearZ (fld u 4) (fld u 8) != fld u 4))) := by
          show _ = _
          unfold wishV restR destX destY
          rw [h6, hs, hd2, if_neg (Int.not_lt.2 hd), if_neg (Int.not_lt.2 hd)]
          rfl
        generalize Pl.nearZ (fld u 3) (fld u 7) = NX at HE ⊢
        generalize Pl.nearZ (fld u 4) (fld u 8) = NY at HE ⊢
        cases e1 : (NX != fld u 3) with
        | true =>
          rw [e1] at HE
          go_wp2_with fail
          go_quiet (fail)
          all_goals
            go_wp2
            go_ret3
            exact ⟨retW HE.out, below_drewN HBF.out nq⟩
        | false =>
          rw [e1] at HE
          go_wp2_with fail
          go_quiet (fail)
          all_goals
            go_wp2
            go_ret3
            exact ⟨retW HE.out, below_drewN HBF.out nq⟩
end Go.Proofs.Ytgiieepfhohmhaa

/- The reference's game: rows of units that grow. -/
namespace Go.Proofs.Ytgiieepfhohmhaa
open Go.RowKit Go.Maps

abbrev zeroUnit : Value := .agg #[.int .i64 0, .int .i64 0, .int .i64 0, .int .i64 0, .int .i64 0, .int .i64 0, .int .i64 0, .int .i64 0, .int .i64 0, .int .i64 0, .int .i64 0]
theorem info_unit : (Try.prog.info? 110).map (fun i => (i.zero, i.size, i.bytes)) = some (some zeroUnit, 11, 88) := by kernel_rfl
theorem flatU_src {w : World} {b o : Nat} {xs : List (List Int)} (h : ∀ i, i < xs.length → ∀ j, j < 11 → w.cell? ⟨b, o + i * 11 + j, none⟩ = some (.int .i64 (fld (rec xs i) j))) : ∀ j u, (flat 11 xs)[j]? = some u → w.cell? ((⟨b, o, none⟩ : Addr).add j) = some u := by
  intro m u hm
  have e : m = (m / 11) * 11 + m % 11 := by omega
  have hr : m % 11 < 11 := Nat.mod_lt _ (by omega)
  generalize m / 11 = q at e
  generalize m % 11 = r at e hr
  subst e
  rw [flat_get hr] at hm
  split at hm
  next hq =>
    rw [add_off, ← Nat.add_assoc, h q hq r hr]
    exact hm
  · cases hm

theorem rowRunU (w : World) (base : Nat) (ty : TypeId) (v : Value) (es : List (List Int)) (hown : RowU base w v es) (xa : Option Addr) (xc : Nat) (xs : List (List Int)) (hx : Recs w xa 11 xs) (hnil : xa = none → xc = 0)
    (hlen : es.length + xs.length ≤ 100000) (hbase : base ≤ w.heap.size) :
    ∃ v' w', (Builtin.append_ #[88, 88] ty #[v, .slice xa xs.length xc]).run Try.prog w = .ok v' w' ∧ RowU base w' v' (es ++ xs) ∧ w.grownBy w' v.ownBlock ∧ (v'.ownBlock = v.ownBlock ∨ v'.ownBlock = some w.heap.size) := by
  obtain ⟨i0, hi, hz0, hz1, hz2⟩ := info_parts info_unit
  rcases xa with _ | ad
  · have hx0 : xs = [] := by
      rcases hx with h | ⟨b, o, h, _⟩
      · exact h
      · cases h
    subst hx0
    rw [hnil rfl]
    have hrun := run_append_owned_none (P := Try.prog) (w := w) base 88 ty 110 i0 11 Try.underlying88 hi v _ _ hown
    refine ⟨v, w, hrun, by rw [List.append_nil]; exact hown, ⟨rfl, rfl, rfl, Nat.le_refl _, fun _ _ _ => rfl⟩, Or.inl rfl⟩
  · have hsrc : ∀ j u, (flat 11 xs)[j]? = some u → w.cell? (ad.add j) = some u := by
      rcases hx with h | ⟨b', o', h, hc⟩
      · subst h
        intro j u hj
        simp [flat] at hj
      · cases h
        exact flatU_src hc
    obtain ⟨v', w', hr, h2, h3, h4, h5⟩ := run_append_own_at (P := Try.prog) w base 88 ty 110 i0 zeroUnit 11 88 Try.underlying88 hi hz0 hz1 hz2 rfl (by decide) v _ _ hown ad xs.length xc (flat 11 xs) (flat_length 11 xs) hsrc (flat_one xs 11) (by unfold maxLen; omega) (by omega) hbase
    refine ⟨v', w', hr, ?_, h3, h5⟩
    unfold RowU
    rw [List.length_append, flat_append]
    exact h2

theorem wp_rowsU {ops : Array Oper} {rest : List Oper} {o : Oper} {a : Act} {Q : Exit → Act → World → Prop} (w : World) (hgd : o.guard = none) (s x : Operand)
    (ho : o.op = .call { callee := .builtin .append, args := #[s, x], argTypes := #[88, 88] }) (base : Nat) (v : Value) (es : List (List Int)) (hs : a.eval s = v) (hown : RowU base w v es)
    (xa : Option Addr) (xc : Nat) (xs : List (List Int)) (hxe : a.eval x = .slice xa xs.length xc) (hx : Recs w xa 11 xs) (hnil : xa = none → xc = 0) (hlen : es.length + xs.length ≤ 100000) (hbase : base ≤ w.heap.size)
    (h : ∀ v' w', RowU base w' v' (es ++ xs) → w.grownBy w' v.ownBlock → (v'.ownBlock = v.ownBlock ∨ v'.ownBlock = some w.heap.size) → wpList Try.prog ops Q rest (a.put o.dst v') w') : wpList Try.prog ops Q (o :: rest) a w := by
  refine wpList_plain hgd fun K hK => ?_
  obtain ⟨v', w', hr, h2, h3, h4⟩ := rowRunU w base o.type v es hown xa xc xs hx hnil hlen hbase
  unfold Oper.wp execOp
  simp only [ho, resolve, invoke, builtin, Sem.run_bind, Sem.run_pure, Result.andThen_ok, List.map_toArray, List.map_cons, List.map_nil, hs, hxe, hr]
  exact hK _ _ (h v' w' h2 h3 h4)
theorem step_rowsU {ops : Array Oper} {o : Oper} {a : Act} {w : World} {K : Act → World → Prop} {Q : Exit → Act → World → Prop} {E : Prop} (hgd : o.guard = none) (s x : Operand)
    (ho : o.op = .call { callee := .builtin .append, args := #[s, x], argTypes := #[88, 88] }) (base : Nat) (v : Value) (es : List (List Int)) (hs : a.eval s = v) (hown : RowU base w v es)
    (xa : Option Addr) (xc : Nat) (xs : List (List Int)) (hxe : a.eval x = .slice xa xs.length xc) (hx : Recs w xa 11 xs) (hnil : xa = none → xc = 0) (hlen : es.length + xs.length ≤ 100000) (hbase : base ≤ w.heap.size)
    (h : ∀ v' w', RowU base w' v' (es ++ xs) → w.grownBy w' v.ownBlock → (v'.ownBlock = v.ownBlock ∨ v'.ownBlock = some w.heap.size) → K (a.put o.dst v') w') :
    if Region.wanted o (yielded ops a.tmps) = true then Oper.wp Try.prog o a w K Q else E := by
  have hw : Region.wanted o (yielded ops a.tmps) = true := by simp [Region.wanted, hgd]
  rw [if_pos hw]
  obtain ⟨v', w', hr, h2, h3, h4⟩ := rowRunU w base o.type v es hown xa xc xs hx hnil hlen hbase
  unfold Oper.wp execOp
  simp only [ho, resolve, invoke, builtin, Sem.run_bind, Sem.run_pure, Result.andThen_ok, List.map_toArray, List.map_cons, List.map_nil, hs, hxe, hr]
  exact h v' w' h2 h3 h4
end Go.Proofs.Ytgiieepfhohmhaa
