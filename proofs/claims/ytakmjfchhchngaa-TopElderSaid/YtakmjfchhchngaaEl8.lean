/- Package elder of the program: one of a state, by itself and beside those ahead of it. -/
import Derived.Test.YtakmjfchhchngaaEl7
namespace Go.Proofs.Ytakmjfchhchngaa
open Go.RowKit

def entE (nx : Int) (es : List (List Int)) (i : Nat) : Nat :=
  if boundsE (rec es i) = true then
    if ownerE (rec es i) = true ∧ placeE (rec es i) = true ∧ targetE (rec es i) = true then
      if (0 < i ∧ fld (rec es i) 0 ≤ fld (rec es (i - 1)) 0) ∨ nx ≤ fld (rec es i) 0 then 3
      else if 0 ≤ idxZ (isAt (fld (rec es i) 3) (fld (rec es i) 4)) (es.take i) then 3 else 0
    else 3
  else 1

theorem rec_take {rs : List (List Int)} {n i : Nat} (h : i < n) : rec (rs.take n) i = rec rs i := by
  simp [rec, List.getD_eq_getElem?_getD, h]
theorem Recs.take {w : World} {a : Option Addr} {k : Nat} {rs : List (List Int)} (h : Recs w a k rs) (n : Nat) : Recs w a k (rs.take n) := by
  rcases h with h | ⟨b, o, e, hc⟩
  · exact Or.inl (by rw [h]; simp)
  · refine Or.inr ⟨b, o, e, fun i hi j hj => ?_⟩
    rw [List.length_take] at hi
    rw [rec_take (by omega)]
    exact hc i (by omega) j hj

theorem two_new {w W : World} (t g0 g1 nx : Int) (fv ev : Value) (u : List Int) (hb : Below (w.heap.size + 2) ((w.alloc (.cells #[.int .i64 t, .int .i64 g0, .int .i64 g1, .int .i64 nx, fv, ev] 60)).alloc (.cells (entC u) 86)) W) :
    W.cell? ⟨w.heap.size, 0, none⟩ = some (.int .i64 t) ∧ W.cell? ⟨w.heap.size, 1, none⟩ = some (.int .i64 g0) ∧ W.cell? ⟨w.heap.size, 2, none⟩ = some (.int .i64 g1) ∧ W.cell? ⟨w.heap.size, 3, none⟩ = some (.int .i64 nx) ∧ W.cell? ⟨w.heap.size, 4, none⟩ = some (fv) ∧ W.cell? ⟨w.heap.size, 5, none⟩ = some (ev) ∧ W.cell? ⟨w.heap.size + 1, 0, none⟩ = some (.int .i64 (fld u 0)) ∧ W.cell? ⟨w.heap.size + 1, 1, none⟩ = some (.int .i64 (fld u 1)) ∧ W.cell? ⟨w.heap.size + 1, 2, none⟩ = some (.int .i64 (fld u 2)) ∧ W.cell? ⟨w.heap.size + 1, 3, none⟩ = some (.int .i64 (fld u 3)) ∧ W.cell? ⟨w.heap.size + 1, 4, none⟩ = some (.int .i64 (fld u 4)) ∧ W.cell? ⟨w.heap.size + 1, 5, none⟩ = some (.int .i64 (fld u 5)) ∧ W.cell? ⟨w.heap.size + 1, 6, none⟩ = some (.int .i64 (fld u 6)) ∧ W.cell? ⟨w.heap.size + 1, 7, none⟩ = some (.int .i64 (fld u 7)) ∧ W.cell? ⟨w.heap.size + 1, 8, none⟩ = some (.int .i64 (fld u 8)) ∧ W.cell? ⟨w.heap.size + 1, 9, none⟩ = some (.int .i64 (fld u 9)) := by
  have hs : (w.alloc (.cells #[.int .i64 t, .int .i64 g0, .int .i64 g1, .int .i64 nx, fv, ev] 60)).heap.size = w.heap.size + 1 := by simp [go_sem]
  have h : ∀ j, W.cell? ⟨w.heap.size + 1, j, none⟩ = (entC u)[j]? := fun j => (hb.cell (p := ⟨w.heap.size + 1, j, none⟩) (Nat.lt_succ_self _)).trans (World.cell?_alloc_at _ _ _ _ hs.symm)
  have g : ∀ j, W.cell? ⟨w.heap.size, j, none⟩ = (#[.int .i64 t, .int .i64 g0, .int .i64 g1, .int .i64 nx, fv, ev] : Array Value)[j]? := fun j =>
    (hb.cell (p := ⟨w.heap.size, j, none⟩) (show w.heap.size < w.heap.size + 2 by omega)).trans ((World.cell?_alloc_past _ _ _ (by rw [hs]; omega)).trans (World.cell?_alloc_at _ _ _ _ rfl))
  exact ⟨g 0, g 1, g 2, g 3, g 4, g 5, h 0, h 1, h 2, h 3, h 4, h 5, h 6, h 7, h 8, h 9⟩

theorem below_drewN {B : Nat} {a w : World} (h : Below B a w) (n : Nat) : Below B a (w.drewN n) := ⟨h.os, h.tape, h.output, h.size, h.block⟩
theorem below_of_drewN {B : Nat} {a w : World} {n : Nat} (h : Below B (a.drewN n) w) : Below B a w := ⟨h.os, h.tape, h.output, h.size, h.block⟩

set_option maxHeartbeats 8000000 in
theorem checkEnt_calls (t g0 g1 nx : Int) (fv : Value) (es : List (List Int)) (ea : Option Addr) (ec : Nat) (i : Nat) (w : World) (hi : i < es.length) (hn : es.length ≤ 1000) (hcap : es.length ≤ ec) (hrow : Recs w ea 10 es) :
    Calls Try.prog 81 #[elderV t g0 g1 nx fv (.slice ea es.length ec), .int .i64 i] w fun e w' => e = .returned (errV (entE nx es i)) ∧ Below w.heap.size w w' := by
  obtain ⟨b, o, rfl, hbw, l0, l1, l2, l3, l4, l5, l6, l7, l8, l9⟩ := hrow.ten hi
  have HR := hid hrow
  have hil : (i : Int) < (es.length : Int) := by omega
  obtain ⟨u, hu⟩ : ∃ u, rec es i = u := ⟨_, rfl⟩
  have HU := hid hu
  rw [hu] at l0 l1 l2 l3 l4 l5 l6 l7 l8 l9
  have ns0 : w.heap.size ≠ b := by omega
  have H0 : Hid (Below w.heap.size w ((w.alloc (.cells #[.int .i64 t, .int .i64 g0, .int .i64 g1, .int .i64 nx, fv, .slice (some ⟨b, o, none⟩) es.length ec] 60)).alloc (.cells (entC u) 86))) := ((Below.refl _ w).alloc (Nat.le_refl _) _).alloc (by simp [go_sem]) _
  have hs2 : ((w.alloc (.cells #[.int .i64 t, .int .i64 g0, .int .i64 g1, .int .i64 nx, fv, .slice (some ⟨b, o, none⟩) es.length ec] 60)).alloc (.cells (entC u) 86)).heap.size = w.heap.size + 2 := by simp [go_sem]
  have HS := hid hs2
  clear hrow hu hs2
  go_enter Try.func81, Try.ntmps81
  go_wp2_with fail
  refine (inBounds_calls u _).mono ?_
  rintro e w2 ⟨rfl, hb2⟩
  rw [HS.out] at hb2
  clear l0 l1 l2 l3 l4 l5 l6 l7 l8 l9
  obtain ⟨s0, s1, s2, s3, s4, s5, c0, c1, c2, c3, c4, c5, c6, c7, c8, c9⟩ := two_new _ _ _ _ _ _ _ hb2
  have HB2 := hid hb2
  have hsz2 : w.heap.size + 2 ≤ w2.heap.size := by have := hb2.size; rw [HS.out] at this; exact this
  clear hb2
  cases h1 : boundsE u
  · go_wp2
    go_ret
    exact ⟨retE (c := 1) (by unfold entE; rw [HU.out, h1]; rfl) rfl, H0.out.trans (HB2.out.mono (by omega))⟩
  go_wp2_with fail
  refine (rightOwner_calls u _).mono ?_
  rintro e w3 ⟨rfl, hb3⟩
  clear s0 s1 s2 s3 s4 s5 c0 c1 c2 c3 c4 c5 c6 c7 c8 c9
  have hb3' := HB2.out.trans (hb3.mono hsz2)
  obtain ⟨s0, s1, s2, s3, s4, s5, c0, c1, c2, c3, c4, c5, c6, c7, c8, c9⟩ := two_new _ _ _ _ _ _ _ hb3'
  have HB3 := hid hb3'
  have hsz3 : w.heap.size + 2 ≤ w3.heap.size := Nat.le_trans hsz2 hb3.size
  clear hb3 hb3' HB2 hsz2
  cases h2 : ownerE u
  · go_wp2
    go_ret
    exact ⟨retE (c := 3) (by unfold entE; rw [HU.out, h1, h2]; rfl) rfl, H0.out.trans (HB3.out.mono (by omega))⟩
  go_wp2_with fail
  refine (rightPlace_calls u _).mono ?_
  rintro e w4 ⟨rfl, hb4⟩
  clear s0 s1 s2 s3 s4 s5 c0 c1 c2 c3 c4 c5 c6 c7 c8 c9
  have hb4' := HB3.out.trans (hb4.mono hsz3)
  obtain ⟨s0, s1, s2, s3, s4, s5, c0, c1, c2, c3, c4, c5, c6, c7, c8, c9⟩ := two_new _ _ _ _ _ _ _ hb4'
  have HB4 := hid hb4'
  have hsz4 : w.heap.size + 2 ≤ w4.heap.size := Nat.le_trans hsz3 hb4.size
  clear hb4 hb4' HB3 hsz3
  cases h3 : placeE u
  · go_wp2
    go_ret
    exact ⟨retE (c := 3) (by unfold entE; rw [HU.out, h1, h2, h3]; rfl) rfl, H0.out.trans (HB4.out.mono (by omega))⟩
  go_wp2_with fail
  refine (rightTarget_calls u _).mono ?_
  rintro e w5 ⟨rfl, hb5⟩
  clear s0 s1 s2 s3 s4 s5 c0 c1 c2 c3 c4 c5 c6 c7 c8 c9
  have hb5' := HB4.out.trans (hb5.mono hsz4)
  obtain ⟨s0, s1, s2, s3, s4, s5, c0, c1, c2, c3, c4, c5, c6, c7, c8, c9⟩ := two_new _ _ _ _ _ _ _ hb5'
  have HB5 := hid hb5'
  have hsz5 : w.heap.size + 2 ≤ w5.heap.size := Nat.le_trans hsz4 hb5.size
  clear hb5 hb5' HB4 hsz4
  cases h4 : targetE u
  · go_wp2
    go_ret
    exact ⟨retE (c := 3) (by unfold entE; rw [HU.out, h1, h2, h3, h4]; rfl) rfl, H0.out.trans (HB5.out.mono (by omega))⟩
  have HE : Hid (entE nx es i = if (0 < i ∧ fld u 0 ≤ fld (rec es (i - 1)) 0) ∨ nx ≤ fld u 0 then 3 else if 0 ≤ idxZ (isAt (fld u 3) (fld u 4)) (es.take i) then 3 else 0) := by
    show _ = _
    unfold entE
    rw [HU.out, h1, h2, h3, h4]
    rfl
  have hcapz : (es.length : Int) ≤ (ec : Int) := by omega
  have hkey : ∃ p : Bool, (p = true ↔ ((0 < i ∧ fld u 0 ≤ fld (rec es (i - 1)) 0) ∨ nx ≤ fld u 0)) := ⟨decide ((0 < i ∧ fld u 0 ≤ fld (rec es (i - 1)) 0) ∨ nx ≤ fld u 0), by simp⟩
  obtain ⟨p, hp⟩ := hkey
  have HP := hid hp
  clear hp
  go_wp2_with fail
  go_cut [49] (fun r wx => r = .bool p ∧ ∃ n, wx = w5.drewN n)
  case first =>
    rcases Nat.eq_zero_or_pos i with hi0 | hi0
    · subst hi0
      by_cases hnx : nx ≤ fld u 0
      · have HPv : Hid (p = true) := HP.out.2 (Or.inr hnx)
        go_quiet (fail)
        go_wp2
        go_meet
        exact ⟨congrArg Value.bool HPv.out.symm, _, rfl⟩
      · have HPv : Hid (p = false) := by
          show _ = _
          rw [← Bool.not_eq_true]
          intro h
          rcases HP.out.1 h with h | h
          · omega
          · omega
        go_quiet (fail)
        go_wp2
        go_meet
        exact ⟨congrArg Value.bool HPv.out.symm, _, rfl⟩
    · obtain ⟨k, rfl⟩ : ∃ k, i = k + 1 := ⟨i - 1, by omega⟩
      obtain ⟨b', o', hbo, hbw', m0, m1, m2, m3, m4, m5, m6, m7, m8, m9⟩ := (HR.out.below (H0.out.trans (HB5.out.mono (by omega)))).ten (i := k) (by omega)
      simp only [Option.some.injEq, Addr.mk.injEq, and_true] at hbo
      obtain ⟨rfl, rfl⟩ := hbo
      have e1 : k + 1 - 1 = k := by omega
      have HP' : Hid (p = true ↔ fld u 0 ≤ fld (rec es k) 0 ∨ nx ≤ fld u 0) := by
        show _ ↔ _
        rw [HP.out, e1]
        constructor
        · rintro (h | h)
          · exact Or.inl h.2
          · exact Or.inr h
        · rintro (h | h)
          · exact Or.inl ⟨by omega, h⟩
          · exact Or.inr h
      have hk0 : (0 : Int) < ((k + 1 : Nat) : Int) := by omega
      have hk1 : ((k + 1 : Nat) : Int) - 1 = (k : Int) := by omega
      have hkl : (k : Int) < (es.length : Int) := by omega
      clear HP e1 m1 m2 m3 m4 m5 m6 m7 m8 m9 hi0
      by_cases hle : fld u 0 ≤ fld (rec es k) 0
      · have HPv : Hid (p = true) := HP'.out.2 (Or.inl hle)
        go_quiet (fail)
        go_wp2
        go_meet
        exact ⟨congrArg Value.bool HPv.out.symm, _, rfl⟩
      · by_cases hnx : nx ≤ fld u 0
        · have HPv : Hid (p = true) := HP'.out.2 (Or.inr hnx)
          go_quiet (fail)
          go_wp2
          go_meet
          exact ⟨congrArg Value.bool HPv.out.symm, _, rfl⟩
        · have HPv : Hid (p = false) := by
            show _ = _
            rw [← Bool.not_eq_true]
            intro h
            rcases HP'.out.1 h with h | h
            · omega
            · omega
          go_quiet (fail)
          go_wp2
          go_meet
          exact ⟨congrArg Value.bool HPv.out.symm, _, rfl⟩
  case rest =>
    obtain ⟨rfl, n, rfl⟩ := hcut
    cases p with
    | true =>
      have HE2 : Hid (entE nx es i = 3) := by
        show _ = _
        rw [HE.out, if_pos (HP.out.1 rfl)]
      have HBw : Hid (Below w.heap.size w w5) := H0.out.trans (HB5.out.mono (by omega))
      clear HP HE
      go_wp2
      go_ret
      exact ⟨retE (c := 3) HE2.out.symm rfl, below_drewN HBw.out _⟩
    | false =>
      have HE2 : Hid (entE nx es i = if 0 ≤ idxZ (isAt (fld u 3) (fld u 4)) (es.take i) then 3 else 0) := by
        show _ = _
        rw [HE.out, if_neg (fun h => absurd (HP.out.2 h) (by simp))]
      have htl : (es.take i).length = i := by rw [List.length_take]; omega
      have HC : Hid (∀ W : World, Recs W (some ⟨b, o, none⟩) 10 es → Calls Try.prog 121 #[.slice (some ⟨b, o, none⟩) i ec, .int .i64 (fld u 3), .int .i64 (fld u 4)] W fun e w' => e = .returned (.int .i64 (idxZ (isAt (fld u 3) (fld u 4)) (es.take i))) ∧ Below W.heap.size W w') := by
        show ∀ _, _
        intro W hW
        have := standing_calls (fld u 3) (fld u 4) (es.take i) (some ⟨b, o, none⟩) ec W (by omega) (hW.take i)
        rw [htl] at this
        exact this
      have HR5 : Hid (Recs w5 (some ⟨b, o, none⟩) 10 es) := HR.out.below (H0.out.trans (HB5.out.mono (by omega)))
      have HBw : Hid (Below w.heap.size w w5) := H0.out.trans (HB5.out.mono (by omega))
      have hiz : (i : Int) ≤ (ec : Int) := by omega
      clear HP HE h1 h2 h3 h4 htl HR
      generalize idxZ (isAt (fld u 3) (fld u 4)) (es.take i) = z at HC HE2
      go_wp2_with fail
      go_region_with (go_at_call 121; refine (HC.out _ (HR5.out.drewN _)).mono ?_; rintro e w6 ⟨rfl, hb6⟩)
      all_goals
        have HB6 : Hid (Below w.heap.size w w6) := HBw.out.trans ((below_of_drewN hb6).mono (show w.heap.size ≤ w5.heap.size by omega))
        clear hb6
        by_cases hz : 0 ≤ z
        · go_wp2
          go_ret
          exact ⟨retE (c := 3) (by rw [HE2.out, if_pos hz]) rfl, HB6.out⟩
        · go_wp2
          go_ret
          exact ⟨retE (c := 0) (by rw [HE2.out, if_neg (by omega)]) rfl, HB6.out⟩
end Go.Proofs.Ytakmjfchhchngaa
