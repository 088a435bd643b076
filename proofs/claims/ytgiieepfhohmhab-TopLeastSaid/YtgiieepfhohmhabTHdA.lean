/- One record of the elder game, read and written as a whole. -/
import Derived.Deep.MidRow
import Derived.Deep.RegionHeld3
import Derived.Deep.DeepCutAuto
import Derived.Test.YtgiieepfhohmhabTRefBA
namespace Go.Proofs.Ytgiieepfhohmhab
open Go.RowKit Go.Maps
theorem Recs.held {W : World} {g : Nat} {es : List (List Int)} (h : Recs W (some ⟨g, 0, none⟩) 10 es) {k : Nat} (hk : k < es.length) {t : List Int} (ht : rec es k = t) :
    ∀ j, j < 10 → ∀ w', Below W.heap.size W w' → w'.cell? ⟨g, k * 10 + j, none⟩ = some (.int .i64 (fld t j)) := fun j hj w' hb => by
  obtain ⟨b', o', hbo, hc⟩ := (h.below hb).at hk
  cases hbo
  have := hc j hj
  rw [Nat.zero_add] at this
  rw [← ht]
  exact this
end Go.Proofs.Ytgiieepfhohmhab
namespace Go.Proofs.Ytgiieepfhohmhab
open Go.RowKit Go.Maps
def goX (es : List (List Int)) (u : List Int) : Int := if Pl.eSpeed (fld u 2) = 0 then fld u 3 else if fld u 6 = 1 then Pl.nearZ (fld u 3) (fld u 7) else if 0 ≤ idxZ (isId (fld u 9)) es ∧ nearE u (tgtE es u) = false then Pl.nearZ (fld u 3) (fld (tgtE es u) 3) else fld u 3
def goY (es : List (List Int)) (u : List Int) : Int := if Pl.eSpeed (fld u 2) = 0 then fld u 4 else if fld u 6 = 1 then Pl.nearZ (fld u 4) (fld u 8) else if 0 ≤ idxZ (isId (fld u 9)) es ∧ nearE u (tgtE es u) = false then Pl.nearZ (fld u 4) (fld (tgtE es u) 4) else fld u 4
set_option maxRecDepth 100000 in
set_option maxHeartbeats 8000000 in
theorem wishAt_calls (es : List (List Int)) (ea : Option Addr) (c : Nat) (u : List Int) (w : World) (hn : es.length ≤ 100) (hu : OnU u) (hg : fld u 6 = 1 → (0 ≤ fld u 7 ∧ fld u 7 < 12) ∧ 0 ≤ fld u 8 ∧ fld u 8 < 12) (ho : 0 ≤ idxZ (isId (fld u 9)) es → OnU (tgtE es u)) (hr : Recs w ea 10 es) :
    Calls Try.prog 86 #[.slice ea es.length c, entV u] w fun e w' => e = .returned (.tuple #[.int .i64 (goX es u), .int .i64 (goY es u)]) ∧ Below w.heap.size w w' := by
  obtain ⟨W, hW⟩ : ∃ W, w.alloc (.cells (entC u) 63) = W := ⟨_, rfl⟩
  have hbW : Below w.heap.size w W := by rw [← hW]; exact (Below.refl _ w).alloc (Nat.le_refl _) _
  have hsW : W.heap.size = w.heap.size + 1 := by rw [← hW]; simp [go_sem]
  have hh0 : W.heap[w.heap.size]? = some (.cells (entC u) 63) := by rw [← hW]; exact heap_alloc_new w _
  have KX : ∀ V, Below W.heap.size W V → ∀ j, V.cell? ⟨w.heap.size, j, none⟩ = (entC u)[j]? := fun V hV j => cell_of_row V _ j _ _ _ ((hV.block _ (by omega)).trans hh0)
  have HK := hid KX
  have HBW := hid hbW
  have HSW := hid hsW
  have HR := hid (hr.below hbW)
  have HU := hid hu
  have HG := hid hg
  have HO := hid ho
  have c0 := KX W (Below.refl _ _)
  have x0 : W.cell? ⟨w.heap.size, 0, none⟩ = some (.int .i64 (fld u 0)) := c0 0
  have x1 : W.cell? ⟨w.heap.size, 1, none⟩ = some (.int .i64 (fld u 1)) := c0 1
  have x2 : W.cell? ⟨w.heap.size, 2, none⟩ = some (.int .i64 (fld u 2)) := c0 2
  have x3 : W.cell? ⟨w.heap.size, 3, none⟩ = some (.int .i64 (fld u 3)) := c0 3
  have x4 : W.cell? ⟨w.heap.size, 4, none⟩ = some (.int .i64 (fld u 4)) := c0 4
  have x5 : W.cell? ⟨w.heap.size, 5, none⟩ = some (.int .i64 (fld u 5)) := c0 5
  have x6 : W.cell? ⟨w.heap.size, 6, none⟩ = some (.int .i64 (fld u 6)) := c0 6
  have x7 : W.cell? ⟨w.heap.size, 7, none⟩ = some (.int .i64 (fld u 7)) := c0 7
  have x8 : W.cell? ⟨w.heap.size, 8, none⟩ = some (.int .i64 (fld u 8)) := c0 8
  have x9 : W.cell? ⟨w.heap.size, 9, none⟩ = some (.int .i64 (fld u 9)) := c0 9
  clear hbW hsW hh0 KX c0 hr hu hg ho
  go_enter Try.func86, Try.ntmps86
  go_wp2_with fail
  refine (rule_elder_calls u _).mono ?_
  rintro e w1 ⟨rfl, hb1⟩
  clear x0 x1 x2 x3 x4 x5 x6 x7 x8 x9 hW
  have fr := field_rule2
  have c0 := HK.out w1 hb1
  have x3 : w1.cell? ⟨w.heap.size, 3, none⟩ = some (.int .i64 (fld u 3)) := c0 3
  have x4 : w1.cell? ⟨w.heap.size, 4, none⟩ = some (.int .i64 (fld u 4)) := c0 4
  have x6 : w1.cell? ⟨w.heap.size, 6, none⟩ = some (.int .i64 (fld u 6)) := c0 6
  have x7 : w1.cell? ⟨w.heap.size, 7, none⟩ = some (.int .i64 (fld u 7)) := c0 7
  have x8 : w1.cell? ⟨w.heap.size, 8, none⟩ = some (.int .i64 (fld u 8)) := c0 8
  have x9 : w1.cell? ⟨w.heap.size, 9, none⟩ = some (.int .i64 (fld u 9)) := c0 9
  have HB1 := hid hb1
  have HN : Hid (∀ V, Below W.heap.size W V → Below w.heap.size w V) := fun V h => HBW.out.trans (h.mono (by rw [HSW.out]; omega))
  clear hb1 c0
  by_cases hs : Pl.eSpeed (fld u 2) = 0
  · have HX : Hid (goX es u = fld u 3) := by show _ = _; unfold goX; rw [if_pos hs]
    have HY : Hid (goY es u = fld u 4) := by show _ = _; unfold goY; rw [if_pos hs]
    have b0 : (Pl.eSpeed (fld u 2) == 0) = true := by simpa using hs
    clear hs
    go_wp2_with fail
    go_quiet (fail)
    go_wp2
    go_ret2
    exact ⟨by rw [HX.out, HY.out]; rfl, HN.out _ (below_drewN HB1.out _)⟩
  have b0 : (Pl.eSpeed (fld u 2) == 0) = false := by simpa using hs
  by_cases h1 : fld u 6 = 1
  · have HX : Hid (goX es u = Pl.nearZ (fld u 3) (fld u 7)) := by show _ = _; unfold goX; rw [if_neg hs, if_pos h1]
    have HY : Hid (goY es u = Pl.nearZ (fld u 4) (fld u 8)) := by show _ = _; unfold goY; rw [if_neg hs, if_pos h1]
    have HG1 := hid (HG.out h1)
    have b1 : (fld u 6 == 1) = true := by simpa using h1
    clear h1 hs
    go_wp2_with fail
    refine (toward_calls _ _ _ _ HU.out HG1.out _).mono ?_
    rintro e w4 ⟨rfl, rfl⟩
    go_wp2
    go_ret2
    exact ⟨by rw [HX.out, HY.out]; rfl, HN.out _ HB1.out⟩
  have b1 : (fld u 6 == 1) = false := by simpa using h1
  have HI := hid (index_calls (fld u 9) es ea c w1 (by omega) (HR.out.below HB1.out))
  go_wp2_with fail
  refine HI.out.mono ?_
  rintro e w2 ⟨rfl, hb2⟩
  have HB2 : Hid (Below W.heap.size W w2) := HB1.out.trans (hb2.mono HB1.out.size)
  clear x3 x4 x6 x7 x8 x9 HI hb2 HB1
  by_cases hi : 0 ≤ idxZ (isId (fld u 9)) es
  case neg =>
    have hne : ¬ (0 ≤ idxZ (isId (fld u 9)) es ∧ nearE u (tgtE es u) = false) := fun h => hi h.1
    have HX : Hid (goX es u = fld u 3) := by show _ = _; unfold goX; rw [if_neg hs, if_neg h1, if_neg hne]
    have HY : Hid (goY es u = fld u 4) := by show _ = _; unfold goY; rw [if_neg hs, if_neg h1, if_neg hne]
    have c0 := HK.out w2 HB2.out
    have x3 : w2.cell? ⟨w.heap.size, 3, none⟩ = some (.int .i64 (fld u 3)) := c0 3
    have x4 : w2.cell? ⟨w.heap.size, 4, none⟩ = some (.int .i64 (fld u 4)) := c0 4
    have bi : decide (0 ≤ idxZ (isId (fld u 9)) es) = false := decide_eq_false hi
    clear hne hs h1 c0 hi
    go_wp2_with fail
    go_quiet (fail)
    go_wp2_with fail
    go_quiet (fail)
    go_wp2
    go_ret2
    exact ⟨by rw [HX.out, HY.out]; rfl, HN.out _ (below_drewN (below_drewN HB2.out _) _)⟩
  obtain ⟨k, hk⟩ : ∃ k : Nat, idxZ (isId (fld u 9)) es = k := ⟨(idxZ (isId (fld u 9)) es).toNat, by omega⟩
  have hkl : k < es.length := by have := (idxZ_bd (isId (fld u 9)) es).2; omega
  have htg : tgtE es u = rec es k := by unfold tgtE; rw [hk]; rfl
  have HT := hid (HO.out hi)
  have HX : Hid (goX es u = if nearE u (tgtE es u) = false then Pl.nearZ (fld u 3) (fld (tgtE es u) 3) else fld u 3) := by
    show _ = _
    unfold goX
    rw [if_neg hs, if_neg h1]
    by_cases hq : nearE u (tgtE es u) = false
    · rw [if_pos ⟨hi, hq⟩, if_pos hq]
    · rw [if_neg (fun h => hq h.2), if_neg hq]
  have HY : Hid (goY es u = if nearE u (tgtE es u) = false then Pl.nearZ (fld u 4) (fld (tgtE es u) 4) else fld u 4) := by
    show _ = _
    unfold goY
    rw [if_neg hs, if_neg h1]
    by_cases hq : nearE u (tgtE es u) = false
    · rw [if_pos ⟨hi, hq⟩, if_pos hq]
    · rw [if_neg (fun h => hq h.2), if_neg hq]
  have HRE : Hid (rec es k = tgtE es u) := htg.symm
  generalize tgtE es u = t at HT HX HY HRE
  have hlt : (k : Int) < (es.length : Int) := by omega
  rw [hk]
  obtain ⟨b, o, rfl, hc⟩ := (HR.out.below HB2.out).at hkl
  rw [HRE.out] at hc
  have hbb : b < w2.heap.size := World.block_lt_of_cell? w2 _ (hc 0 (by omega))
  have HC := hid hc
  have c0 := HK.out w2 HB2.out
  have x0 : w2.cell? ⟨w.heap.size, 0, none⟩ = some (.int .i64 (fld u 0)) := c0 0
  have x1 : w2.cell? ⟨w.heap.size, 1, none⟩ = some (.int .i64 (fld u 1)) := c0 1
  have x2 : w2.cell? ⟨w.heap.size, 2, none⟩ = some (.int .i64 (fld u 2)) := c0 2
  have x3 : w2.cell? ⟨w.heap.size, 3, none⟩ = some (.int .i64 (fld u 3)) := c0 3
  have x4 : w2.cell? ⟨w.heap.size, 4, none⟩ = some (.int .i64 (fld u 4)) := c0 4
  have x5 : w2.cell? ⟨w.heap.size, 5, none⟩ = some (.int .i64 (fld u 5)) := c0 5
  have x6 : w2.cell? ⟨w.heap.size, 6, none⟩ = some (.int .i64 (fld u 6)) := c0 6
  have x7 : w2.cell? ⟨w.heap.size, 7, none⟩ = some (.int .i64 (fld u 7)) := c0 7
  have x8 : w2.cell? ⟨w.heap.size, 8, none⟩ = some (.int .i64 (fld u 8)) := c0 8
  have x9 : w2.cell? ⟨w.heap.size, 9, none⟩ = some (.int .i64 (fld u 9)) := c0 9
  have l0 : w2.cell? ⟨b, o + k * 10, none⟩ = some (.int .i64 (fld t 0)) := hc 0 (by omega)
  have l1 := hc 1 (by omega)
  have l2 := hc 2 (by omega)
  have l3 := hc 3 (by omega)
  have l4 := hc 4 (by omega)
  have l5 := hc 5 (by omega)
  have l6 := hc 6 (by omega)
  have l7 := hc 7 (by omega)
  have l8 := hc 8 (by omega)
  have l9 := hc 9 (by omega)
  clear hs h1 hi hk htg hc c0 HRE HR
  cases hq : nearE u t with
  | false =>
    rw [if_pos hq] at HX HY
    have HQ := hid hq
    clear hq
    go_wp2_with fail
    go_region_with (go_at_call 59; refine (near_calls u t _ HU.out HT.out).mono ?_; rintro e w3 ⟨rfl, hb3⟩; rw [HQ.out])
    all_goals
      have HB3 : Hid (Below w2.heap.size w2 w3) := ((Below.refl _ _).drew).trans (hb3.mono (by simp [go_sem]))
      clear hb3 x0 x1 x2 x3 x4 x5 x6 x7 x8 x9 l0 l1 l2 l3 l4 l5 l6 l7 l8 l9
      have HB4 : Hid (Below W.heap.size W w3) := HB2.out.trans (HB3.out.mono HB2.out.size)
      have c0 := HK.out w3 HB4.out
      have x3 : w3.cell? ⟨w.heap.size, 3, none⟩ = some (.int .i64 (fld u 3)) := c0 3
      have x4 : w3.cell? ⟨w.heap.size, 4, none⟩ = some (.int .i64 (fld u 4)) := c0 4
      have l3 : w3.cell? ⟨b, o + k * 10 + 3, none⟩ = some (.int .i64 (fld t 3)) := (HB3.out.cell (p := ⟨b, o + k * 10 + 3, none⟩) hbb).trans (HC.out 3 (by omega))
      have l4 : w3.cell? ⟨b, o + k * 10 + 4, none⟩ = some (.int .i64 (fld t 4)) := (HB3.out.cell (p := ⟨b, o + k * 10 + 4, none⟩) hbb).trans (HC.out 4 (by omega))
      clear c0
      go_wp2_with fail
      go_quiet ((go_at_call 94; exact Calls.quiet_of_same (toward_calls _ _ _ _ HU.out HT.out _)))
      go_wp2
      go_ret2
      exact ⟨by rw [HX.out, HY.out]; rfl, HN.out _ (below_drewN HB4.out _)⟩
  | true =>
    rw [if_neg (by rw [hq]; simp)] at HX HY
    have HQ := hid hq
    clear hq
    go_wp2_with fail
    go_region_with (go_at_call 59; refine (near_calls u t _ HU.out HT.out).mono ?_; rintro e w3 ⟨rfl, hb3⟩; rw [HQ.out])
    all_goals
      have HB3 : Hid (Below w2.heap.size w2 w3) := ((Below.refl _ _).drew).trans (hb3.mono (by simp [go_sem]))
      clear hb3 x0 x1 x2 x3 x4 x5 x6 x7 x8 x9 l0 l1 l2 l3 l4 l5 l6 l7 l8 l9
      have HB4 : Hid (Below W.heap.size W w3) := HB2.out.trans (HB3.out.mono HB2.out.size)
      have c0 := HK.out w3 HB4.out
      have x3 : w3.cell? ⟨w.heap.size, 3, none⟩ = some (.int .i64 (fld u 3)) := c0 3
      have x4 : w3.cell? ⟨w.heap.size, 4, none⟩ = some (.int .i64 (fld u 4)) := c0 4
      clear c0
      go_wp2_with fail
      go_quiet (fail)
      go_wp2
      go_ret2
      exact ⟨by rw [HX.out, HY.out]; rfl, HN.out _ (below_drewN HB4.out _)⟩
end Go.Proofs.Ytgiieepfhohmhab
