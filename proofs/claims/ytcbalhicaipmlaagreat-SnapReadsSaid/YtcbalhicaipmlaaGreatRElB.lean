/- Package elder of the program: one of a state, by itself and beside those ahead of it. -/
import Derived.Test.YtcbalhicaipmlaaGreatProg
import Derived.WalkKit
import Derived.Below
import Derived.Deep.QuietTactic
import Derived.Maps.OwnOps
import Derived.Maps.Views
import Derived.Test.YtcbalhicaipmlaaGreatRElA
namespace Go.Proofs.YtcbalhicaipmlaaGreat
open Go.RowKit
def entE (nx : Int) (es : List (List Int)) (i : Nat) : Nat :=
  if boundsE (rec es i) = true then
    if ownerE (rec es i) = true ∧ placeE (rec es i) = true ∧ targetE (rec es i) = true then
      if (0 < i ∧ fld (rec es i) 0 ≤ fld (rec es (i - 1)) 0) ∨ nx ≤ fld (rec es i) 0 then 3
      else if 0 ≤ idxZ (isAt (fld (rec es i) 3) (fld (rec es i) 4)) (es.take i) then 3 else 0
    else 3
  else 1
theorem rec_take {rs : List (List Int)} {n i : Nat} (h : i < n) : rec (rs.take n) i = rec rs i := by
  simp [rec, List.getD_eq_getElem?_getD, h]
theorem Recs.take {w : World} {a : Option Addr} {k : Nat} {rs : List (List Int)} (h : Recs w a k rs) (n : Nat) : Recs w a k (rs.take n) := by
  rcases h with h | ⟨b, o, e, hc⟩
  · exact Or.inl (by rw [h]; simp)
  · refine Or.inr ⟨b, o, e, fun i hi j hj => ?_⟩
    rw [List.length_take] at hi
    rw [rec_take (by omega)]
    exact hc i (by omega) j hj
theorem two_new {w W : World} (t g0 g1 nx : Int) (fv ev : Value) (u : List Int) (hb : Below (w.heap.size + 2) ((w.alloc (.cells #[.int .i64 t, .int .i64 g0, .int .i64 g1, .int .i64 nx, fv, ev] 26)).alloc (.cells (entC u) 119)) W) :
    W.cell? ⟨w.heap.size, 0, none⟩ = some (.int .i64 t) ∧ W.cell? ⟨w.heap.size, 1, none⟩ = some (.int .i64 g0) ∧ W.cell? ⟨w.heap.size, 2, none⟩ = some (.int .i64 g1) ∧ W.cell? ⟨w.heap.size, 3, none⟩ = some (.int .i64 nx) ∧ W.cell? ⟨w.heap.size, 4, none⟩ = some (fv) ∧ W.cell? ⟨w.heap.size, 5, none⟩ = some (ev) ∧ W.cell? ⟨w.heap.size + 1, 0, none⟩ = some (.int .i64 (fld u 0)) ∧ W.cell? ⟨w.heap.size + 1, 1, none⟩ = some (.int .i64 (fld u 1)) ∧ W.cell? ⟨w.heap.size + 1, 2, none⟩ = some (.int .i64 (fld u 2)) ∧ W.cell? ⟨w.heap.size + 1, 3, none⟩ = some (.int .i64 (fld u 3)) ∧ W.cell? ⟨w.heap.size + 1, 4, none⟩ = some (.int .i64 (fld u 4)) ∧ W.cell? ⟨w.heap.size + 1, 5, none⟩ = some (.int .i64 (fld u 5)) ∧ W.cell? ⟨w.heap.size + 1, 6, none⟩ = some (.int .i64 (fld u 6)) ∧ W.cell? ⟨w.heap.size + 1, 7, none⟩ = some (.int .i64 (fld u 7)) ∧ W.cell? ⟨w.heap.size + 1, 8, none⟩ = some (.int .i64 (fld u 8)) ∧ W.cell? ⟨w.heap.size + 1, 9, none⟩ = some (.int .i64 (fld u 9)) := by
  have hs : (w.alloc (.cells #[.int .i64 t, .int .i64 g0, .int .i64 g1, .int .i64 nx, fv, ev] 26)).heap.size = w.heap.size + 1 := by simp [go_sem]
  have h : ∀ j, W.cell? ⟨w.heap.size + 1, j, none⟩ = (entC u)[j]? := fun j => (hb.cell (p := ⟨w.heap.size + 1, j, none⟩) (Nat.lt_succ_self _)).trans (World.cell?_alloc_at _ _ _ _ hs.symm)
  have g : ∀ j, W.cell? ⟨w.heap.size, j, none⟩ = (#[.int .i64 t, .int .i64 g0, .int .i64 g1, .int .i64 nx, fv, ev] : Array Value)[j]? := fun j =>
    (hb.cell (p := ⟨w.heap.size, j, none⟩) (show w.heap.size < w.heap.size + 2 by omega)).trans ((World.cell?_alloc_past _ _ _ (by rw [hs]; omega)).trans (World.cell?_alloc_at _ _ _ _ rfl))
  exact ⟨g 0, g 1, g 2, g 3, g 4, g 5, h 0, h 1, h 2, h 3, h 4, h 5, h 6, h 7, h 8, h 9⟩
theorem below_of_drewN {B : Nat} {a w : World} {n : Nat} (h : Below B (a.drewN n) w) : Below B a w := ⟨h.os, h.tape, h.output, h.size, h.block⟩
set_option maxHeartbeats 8000000 in
theorem checkEnt_calls (t g0 g1 nx : Int) (fv : Value) (es : List (List Int)) (ea : Option Addr) (ec : Nat) (i : Nat) (w : World) (hi : i < es.length) (hn : es.length ≤ 1000) (hcap : es.length ≤ ec) (hrow : Recs w ea 10 es) :
    Calls Tryz.prog 74 #[elderV t g0 g1 nx fv (.slice ea es.length ec), .int .i64 i] w fun e w' => e = .returned (errV (entE nx es i)) ∧ Below w.heap.size w w' := by
  obtain ⟨b, o, rfl, hbw, l0, l1, l2, l3, l4, l5, l6, l7, l8, l9⟩ := hrow.ten hi
  have HR := hid hrow
  have hil : (i : Int) < (es.length : Int) := by omega
  obtain ⟨u, hu⟩ : ∃ u, rec es i = u := ⟨_, rfl⟩
  have HU := hid hu
  rw [hu] at l0 l1 l2 l3 l4 l5 l6 l7 l8 l9
  have ns0 : w.heap.size ≠ b := by omega
  have H0 : Hid (Below w.heap.size w ((w.alloc (.cells #[.int .i64 t, .int .i64 g0, .int .i64 g1, .int .i64 nx, fv, .slice (some ⟨b, o, none⟩) es.length ec] 26)).alloc (.cells (entC u) 119))) := ((Below.refl _ w).alloc (Nat.le_refl _) _).alloc (by simp [go_sem]) _
  have hs2 : ((w.alloc (.cells #[.int .i64 t, .int .i64 g0, .int .i64 g1, .int .i64 nx, fv, .slice (some ⟨b, o, none⟩) es.length ec] 26)).alloc (.cells (entC u) 119)).heap.size = w.heap.size + 2 := by simp [go_sem]
  have HS := hid hs2
  clear hrow hu hs2
  go_enter Tryz.func74, Tryz.ntmps74
  go_wp2_with fail
  refine (inBounds_calls u _).mono ?_
  rintro e w2 ⟨rfl, hb2⟩
  rw [HS.out] at hb2
  clear l0 l1 l2 l3 l4 l5 l6 l7 l8 l9
  obtain ⟨s0, s1, s2, s3, s4, s5, c0, c1, c2, c3, c4, c5, c6, c7, c8, c9⟩ := two_new _ _ _ _ _ _ _ hb2
  have HB2 := hid hb2
  have hsz2 : w.heap.size + 2 ≤ w2.heap.size := by have := hb2.size; rw [HS.out] at this; exact this
  clear hb2
  cases h1 : boundsE u
  · go_wp2
    go_ret
    exact ⟨retE (c := 1) (by unfold entE; rw [HU.out, h1]; rfl) rfl, H0.out.trans (HB2.out.mono (by omega))⟩
  go_wp2_with fail
  refine (rightOwner_calls u _).mono ?_
  rintro e w3 ⟨rfl, hb3⟩
  clear s0 s1 s2 s3 s4 s5 c0 c1 c2 c3 c4 c5 c6 c7 c8 c9
  have hb3' := HB2.out.trans (hb3.mono hsz2)
  obtain ⟨s0, s1, s2, s3, s4, s5, c0, c1, c2, c3, c4, c5, c6, c7, c8, c9⟩ := two_new _ _ _ _ _ _ _ hb3'
  have HB3 := hid hb3'
  have hsz3 : w.heap.size + 2 ≤ w3.heap.size := Nat.le_trans hsz2 hb3.size
  clear hb3 hb3' HB2 hsz2
  cases h2 : ownerE u
  · go_wp2
    go_ret
    exact ⟨retE (c := 3) (by unfold entE; rw [HU.out, h1, h2]; rfl) rfl, H0.out.trans (HB3.out.mono (by omega))⟩
  go_wp2_with fail
  refine (rightPlace_calls u _).mono ?_
  rintro e w4 ⟨rfl, hb4⟩
  clear s0 s1 s2 s3 s4 s5 c0 c1 c2 c3 c4 c5 c6 c7 c8 c9
  have hb4' := HB3.out.trans (hb4.mono hsz3)
  obtain ⟨s0, s1, s2, s3, s4, s5, c0, c1, c2, c3, c4, c5, c6, c7, c8, c9⟩ := two_new _ _ _ _ _ _ _ hb4'
  have HB4 := hid hb4'
  have hsz4 : w.heap.size + 2 ≤ w4.heap.size := Nat.le_trans hsz3 hb4.size
  clear hb4 hb4' HB3 hsz3
  cases h3 : placeE u
  · go_wp2
    go_ret
    exact ⟨retE (c := 3) (by unfold entE; rw [HU.out, h1, h2, h3]; rfl) rfl, H0.out.trans (HB4.out.mono (by omega))⟩
  go_wp2_with fail
  refine (rightTarget_calls u _).mono ?_
  rintro e w5 ⟨rfl, hb5⟩
  clear s0 s1 s2 s3 s4 s5 c0 c1 c2 c3 c4 c5 c6 c7 c8 c9
  have hb5' := HB4.out.trans (hb5.mono hsz4)
  obtain ⟨s0, s1, s2, s3, s4, s5, c0, c1, c2, c3, c4, c5, c6, c7, c8, c9⟩ := two_new _ _ _ _ _ _ _ hb5'
  have HB5 := hid hb5'
  have hsz5 : w.heap.size + 2 ≤ w5.heap.size := Nat.le_trans hsz4 hb5.size
  clear hb5 hb5' HB4 hsz4
  cases h4 : targetE u
  · go_wp2
    go_ret
    exact ⟨retE (c := 3) (by unfold entE; rw [HU.out, h1, h2, h3, h4]; rfl) rfl, H0.out.trans (HB5.out.mono (by omega))⟩
  have HE : Hid (entE nx es i = if (0 < i ∧ fld u 0 ≤ fld (rec es (i - 1)) 0) ∨ nx ≤ fld u 0 then 3 else if 0 ≤ idxZ (isAt (fld u 3) (fld u 4)) (es.take i) then 3 else 0) := by
    show _ = _
    unfold entE
    rw [HU.out, h1, h2, h3, h4]
    rfl
  have hcapz : (es.length : Int) ≤ (ec : Int) := by omega
  have hkey : ∃ p : Bool, (p = true ↔ ((0 < i ∧ fld u 0 ≤ fld (rec es (i - 1)) 0) ∨ nx ≤ fld u 0)) := ⟨decide ((0 < i ∧ fld u 0 ≤ fld (rec es (i - 1)) 0) ∨ nx ≤ fld u 0), by simp⟩
  obtain ⟨p, hp⟩ := hkey
  have HP := hid hp
  clear hp
  go_wp2_with fail
  go_cut [49] (fun r wx => r = .bool p ∧ ∃ n, wx = w5.drewN n)
  case first =>
    rcases Nat.eq_zero_or_pos i with hi0 | hi0
    · subst hi0
      by_cases hnx : nx ≤ fld u 0
      · have HPv : Hid (p = true) := HP.out.2 (Or.inr hnx)
        go_quiet (fail)
        go_wp2
        go_meet
        exact ⟨congrArg Value.bool HPv.out.symm, _, rfl⟩
      · have HPv : Hid (p = false) := by
          show _ = _
          rw [← Bool.not_eq_true]
          intro h
          rcases HP.out.1 h with h | h
          · omega
          · omega
        go_quiet (fail)
        go_wp2
        go_meet
        exact ⟨congrArg Value.bool HPv.out.symm, _, rfl⟩
    · obtain ⟨k, rfl⟩ : ∃ k, i = k + 1 := ⟨i - 1, by omega⟩
      obtain ⟨b', o', hbo, hbw', m0, m1, m2, m3, m4, m5, m6, m7, m8, m9⟩ := (HR.out.below (H0.out.trans (HB5.out.mono (by omega)))).ten (i := k) (by omega)
      simp only [Option.some.injEq, Addr.mk.injEq, and_true] at hbo
      obtain ⟨rfl, rfl⟩ := hbo
      have e1 : k + 1 - 1 = k := by omega
      have HP' : Hid (p = true ↔ fld u 0 ≤ fld (rec es k) 0 ∨ nx ≤ fld u 0) := by
        show _ ↔ _
        rw [HP.out, e1]
        constructor
        · rintro (h | h)
          · exact Or.inl h.2
          · exact Or.inr h
        · rintro (h | h)
          · exact Or.inl ⟨by omega, h⟩
          · exact Or.inr h
      have hk0 : (0 : Int) < ((k + 1 : Nat) : Int) := by omega
      have hk1 : ((k + 1 : Nat) : Int) - 1 = (k : Int) := by omega
      have hkl : (k : Int) < (es.length : Int) := by omega
      clear HP e1 m1 m2 m3 m4 m5 m6 m7 m8 m9 hi0
      by_cases hle : fld u 0 ≤ fld (rec es k) 0
      · have HPv : Hid (p = true) := HP'.out.2 (Or.inl hle)
        go_quiet (fail)
        go_wp2
        go_meet
        exact ⟨congrArg Value.bool HPv.out.symm, _, rfl⟩
      · by_cases hnx : nx ≤ fld u 0
        · have HPv : Hid (p = true) := HP'.out.2 (Or.inr hnx)
          go_quiet (fail)
          go_wp2
          go_meet
          exact ⟨congrArg Value.bool HPv.out.symm, _, rfl⟩
        · have HPv : Hid (p = false) := by
            show _ = _
            rw [← Bool.not_eq_true]
            intro h
            rcases HP'.out.1 h with h | h
            · omega
            · omega
          go_quiet (fail)
          go_wp2
          go_meet
          exact ⟨congrArg Value.bool HPv.out.symm, _, rfl⟩
  case rest =>
    obtain ⟨rfl, n, rfl⟩ := hcut
    cases p with
    | true =>
      have HE2 : Hid (entE nx es i = 3) := by
        show _ = _
        rw [HE.out, if_pos (HP.out.1 rfl)]
      have HBw : Hid (Below w.heap.size w w5) := H0.out.trans (HB5.out.mono (by omega))
      clear HP HE
      go_wp2
      go_ret
      exact ⟨retE (c := 3) HE2.out.symm rfl, below_drewN HBw.out _⟩
    | false =>
      have HE2 : Hid (entE nx es i = if 0 ≤ idxZ (isAt (fld u 3) (fld u 4)) (es.take i) then 3 else 0) := by
        show _ = _
        rw [HE.out, if_neg (fun h => absurd (HP.out.2 h) (by simp))]
      have htl : (es.take i).length = i := by rw [List.length_take]; omega
      have HC : Hid (∀ W : World, Recs W (some ⟨b, o, none⟩) 10 es → Calls Tryz.prog 110 #[.slice (some ⟨b, o, none⟩) i ec, .int .i64 (fld u 3), .int .i64 (fld u 4)] W fun e w' => e = .returned (.int .i64 (idxZ (isAt (fld u 3) (fld u 4)) (es.take i))) ∧ Below W.heap.size W w') := by
        show ∀ _, _
        intro W hW
        have := standing_calls (fld u 3) (fld u 4) (es.take i) (some ⟨b, o, none⟩) ec W (by omega) (hW.take i)
        rw [htl] at this
        exact this
      have HR5 : Hid (Recs w5 (some ⟨b, o, none⟩) 10 es) := HR.out.below (H0.out.trans (HB5.out.mono (by omega)))
      have HBw : Hid (Below w.heap.size w w5) := H0.out.trans (HB5.out.mono (by omega))
      have hiz : (i : Int) ≤ (ec : Int) := by omega
      clear HP HE h1 h2 h3 h4 htl HR
      generalize idxZ (isAt (fld u 3) (fld u 4)) (es.take i) = z at HC HE2
      go_wp2_with fail
      go_region_with (go_at_call 110; refine (HC.out _ (HR5.out.drewN _)).mono ?_; rintro e w6 ⟨rfl, hb6⟩)
      all_goals
        have HB6 : Hid (Below w.heap.size w w6) := HBw.out.trans ((below_of_drewN hb6).mono (show w.heap.size ≤ w5.heap.size by omega))
        clear hb6
        by_cases hz : 0 ≤ z
        · go_wp2
          go_ret
          exact ⟨retE (c := 3) (by rw [HE2.out, if_pos hz]) rfl, HB6.out⟩
        · go_wp2
          go_ret
          exact ⟨retE (c := 0) (by rw [HE2.out, if_neg (by omega)]) rfl, HB6.out⟩
end Go.Proofs.YtcbalhicaipmlaaGreat
namespace Go.Proofs.YtcbalhicaipmlaaGreat
open Go.RowKit Go.Maps
theorem intKey : Keyed Tryz.prog 3 := int_keyed Tryz.underlying3
theorem intZero (w : World) : (zeroValue 3).run Tryz.prog w = .ok (.int .i64 0) w := by kernel_rfl
def Counts (w : World) (B n : Nat) (f : Int → Int) : Prop :=
  ∃ D : DataW Unit, w.ownsMap Tryz.prog 3 (plainElem Tryz.prog 3) B n D ∧ IsMap D ∧ ∀ id : Int, (Lit.int .i64 id).wf = true → D.atKey (.int .i64 id) (.lit (.int .i64 0)) = .lit (.int .i64 (f id))
def updZ (f : Int → Int) (id v : Int) : Int → Int := fun j => if j = id then v else f j
theorem updZ_same (f : Int → Int) (id v : Int) : updZ f id v id = v := by simp [updZ]
theorem updZ_other (f : Int → Int) {id j : Int} (v : Int) (h : j ≠ id) : updZ f id v j = f j := by simp [updZ, h]
theorem Counts.made (w : World) : Counts (w.alloc (.map #[] 0)) w.heap.size 0 (fun _ => 0) :=
  ⟨.map [], World.ownsMap_made _ _ _ _, isMap_empty, fun _ _ => rfl⟩
theorem Counts.alloc {w : World} {B n : Nat} {f : Int → Int} (h : Counts w B n f) (o : Obj) : Counts (w.alloc o) B n f := by
  obtain ⟨D, h1, h2, h3⟩ := h
  exact ⟨D, h1.alloc o, h2, h3⟩
theorem Counts.drewN {w : World} {B n : Nat} {f : Int → Int} (h : Counts w B n f) (k : Nat) : Counts (w.drewN k) B n f := h
theorem Counts.below {w w' : World} {B n : Nat} {f : Int → Int} (h : Counts w B n f) (hb : Below w.heap.size w w') : Counts w' B n f := by
  obtain ⟨D, h1, h2, h3⟩ := h
  have hlt := h1.lt
  obtain ⟨es, clock, hh, F, hs, hD⟩ := h1
  exact ⟨D, ⟨es, clock, (hb.block B hlt).trans hh, F, hs, hD⟩, h2, h3⟩
theorem Counts.mono {w : World} {B n m : Nat} {f : Int → Int} (h : Counts w B n f) (hm : n ≤ m) : Counts w B m f := by
  obtain ⟨D, h1, h2, h3⟩ := h
  exact ⟨D, h1.mono hm, h2, h3⟩
theorem wp_look_counts (w : World) {ops : Array Oper} {rest : List Oper} {o : Oper} {a : Act} {Q : Exit → Act → World → Prop}
    (hg : o.guard = none) (m x : Operand) (hop : o.op = Op.lookup 187 m x false) (B n : Nat) (f : Int → Int)
    (hm : a.eval m = .map (some B)) (hown : Counts w B n f) (id : Int) (hx : a.eval x = .int .i64 id) (hwf : (Lit.int .i64 id).wf = true)
    (hK : wpList Tryz.prog ops Q rest (a.put o.dst (.int .i64 (f id))) w) : wpList Tryz.prog ops Q (o :: rest) a w := by
  obtain ⟨D, h1, h2, h3⟩ := hown
  refine wpList_lookup_own_int w hg m x 187 hop 3 3 .i64 intKey Tryz.underlying187 Tryz.underlying3 (intZero _) B n D hm h1 _ _ hx (keyOf_int_mk Tryz.underlying3 hwf) ?_
  intro c hat _
  have := (h3 id hwf).symm.trans hat
  simp only [DataW.lit.injEq, Lit.int.injEq, true_and] at this
  rw [← this]
  exact hK
theorem wp_store_counts (w : World) {ops : Array Oper} {rest : List Oper} {o : Oper} {a : Act} {Q : Exit → Act → World → Prop}
    (hg : o.guard = none) (m x v : Operand) (hop : o.op = Op.mapUpdate 187 m x v) (B n : Nat) (f : Int → Int)
    (hm : a.eval m = .map (some B)) (hown : Counts w B n f) (hn : n ≤ 100000) (id c : Int) (hx : a.eval x = .int .i64 id) (hv : a.eval v = .int .i64 c) (hwf : (Lit.int .i64 id).wf = true) (hwc : (Lit.int .i64 c).wf = true)
    (hK : ∀ w', Counts w' B (n + 1) (updZ f id c) → w.grownBy w' (some B) → wpList Tryz.prog ops Q rest (a.put o.dst undef) w') : wpList Tryz.prog ops Q (o :: rest) a w := by
  obtain ⟨D, h1, h2, h3⟩ := hown
  refine wpList_mapUpdate_own w hg m x v 187 hop 3 3 intKey Tryz.underlying187 _ B n D hm h1 (by unfold maxLen; omega) _ _ _ hx hv (keyOf_int_mk Tryz.underlying3 hwf) _ [] (plainElem_int Tryz.underlying3 hwc) ?_
  intro w1 hown1 hgrow1
  refine hK w1 ⟨_, hown1, h2.put _ _, fun j hj => ?_⟩ hgrow1
  by_cases e : j = id
  · rw [e, atKey_put_same h2 (by trivial), updZ_same]
  · rw [atKey_put_other (by intro h; exact e (by simpa using h)), updZ_other _ _ e]
    exact h3 j hj
theorem wf64 {a : Int} (h : -1000000 ≤ a) (g : a ≤ 1000000) : (Lit.int .i64 a).wf = true := WalkArith.wf_i64 ⟨by omega, by omega⟩
end Go.Proofs.YtcbalhicaipmlaaGreat
namespace Go.Proofs.YtcbalhicaipmlaaGreat
open Go.RowKit Go.Maps
def occ (l : List Int) (id : Int) : Int := (l.count id : Int)
theorem occ_snoc (l : List Int) (x : Int) : updZ (occ l) x (occ l x + 1) = occ (l ++ [x]) := by
  funext j
  by_cases h : j = x
  · subst h
    rw [updZ_same]
    simp [occ]
  · rw [updZ_other _ _ h]
    have : ¬ x = j := fun e => h e.symm
    simp [occ, List.count_append, this]
theorem occ_bd (l : List Int) (x : Int) : 0 ≤ occ l x ∧ occ l x ≤ l.length := by
  have := List.count_le_length (a := x) (l := l)
  unfold occ
  omega
def idsE (es : List (List Int)) : List Int := es.map (fun r => fld r 0)
theorem ids_take {es : List (List Int)} {k : Nat} (h : k < es.length) : idsE (es.take (k + 1)) = idsE (es.take k) ++ [fld (rec es k) 0] := by
  unfold idsE
  rw [List.take_add_one, rec_at h, List.map_append]
  simp [h]
theorem nums_take {l : List Int} {k : Nat} (h : k < l.length) : l.take (k + 1) = l.take k ++ [fld l k] := by
  rw [List.take_add_one]
  simp [fld, List.getD_eq_getElem?_getD, h]
def freeE (nx : Int) (es : List (List Int)) (free : List Int) : Nat :=
  if (es.length : Int) + (free.length : Int) = nx - 1 then if ∀ j, j < (nx - 1).toNat → (idsE es ++ free).count ((j : Int) + 1) = 1 then 0 else 3 else 3
theorem freeE_pos {nx : Int} {es : List (List Int)} {free : List Int} (h : (es.length : Int) + (free.length : Int) = nx - 1) (g : ∀ j, j < (nx - 1).toNat → (idsE es ++ free).count ((j : Int) + 1) = 1) : freeE nx es free = 0 := by
  unfold freeE; rw [if_pos h, if_pos g]
theorem freeE_neg1 {nx : Int} {es : List (List Int)} {free : List Int} (h : ¬ (es.length : Int) + (free.length : Int) = nx - 1) : freeE nx es free = 3 := by
  unfold freeE; rw [if_neg h]
theorem freeE_neg2 {nx : Int} {es : List (List Int)} {free : List Int} {j : Nat} (hj : j < (nx - 1).toNat) (g : (idsE es ++ free).count ((j : Int) + 1) ≠ 1) : freeE nx es free = 3 := by
  unfold freeE
  split
  · rw [if_neg (fun h => g (h j hj))]
  · rfl
set_option maxRecDepth 100000 in
set_option maxHeartbeats 8000000 in
theorem checkFree_calls (t g0 g1 nx : Int) (free : List Int) (fa ea : Option Addr) (fc ec : Nat) (es : List (List Int)) (w : World) (hnx : 1 ≤ nx ∧ nx ≤ 201) (hne : es.length ≤ 20) (hnf : free.length ≤ 200)
    (hrow : Recs w ea 10 es) (hfr : Nums w fa free) (hwe : ∀ i, i < es.length → (Lit.int .i64 (fld (rec es i) 0)).wf = true) (hwf : ∀ i, i < free.length → (Lit.int .i64 (fld free i)).wf = true) :
    Calls Tryz.prog 76 #[elderV t g0 g1 nx (.slice fa free.length fc) (.slice ea es.length ec)] w fun e w' => e = .returned (errV (freeE nx es free)) ∧ Below w.heap.size w w' := by
  have HR := hid hrow
  have HF := hid hfr
  have HWE := hid hwe
  have HWF := hid hwf
  clear hrow hfr hwe hwf
  have hmm := @run_makeMap Tryz.prog
  obtain ⟨w1, hw1⟩ : ∃ w1, w1 = w.alloc (.cells #[.int .i64 t, .int .i64 g0, .int .i64 g1, .int .i64 nx, .slice fa free.length fc, .slice ea es.length ec] 26) := ⟨_, rfl⟩
  have HB1 : Hid (Below w.heap.size w w1) := by rw [hw1]; exact (Below.refl _ w).alloc (Nat.le_refl _) _
  have hs1 : w1.heap.size = w.heap.size + 1 := by rw [hw1]; simp [go_sem]
  have HS1 := hid hs1
  have q3 : w1.cell? ⟨w.heap.size, 3, none⟩ = some (.int .i64 nx) := by rw [hw1]; simp [go_sem]
  have Q3 := hid q3
  have HW1 := hid hw1
  clear q3 hs1 hw1
  by_cases hsum : (es.length : Int) + (free.length : Int) = nx - 1
  case neg =>
    have b1 : ((es.length : Int) + (free.length : Int) != nx - 1) = true := by simpa using hsum
    have HE : Hid (freeE nx es free = 3) := freeE_neg1 hsum
    clear hsum
    go_enter Tryz.func76, Tryz.ntmps76
    go_wp2
    go_ret
    exact ⟨retE (c := 3) HE.out.symm rfl, by go_grown⟩
  have b1 : ((es.length : Int) + (free.length : Int) != nx - 1) = false := by simpa using hsum
  have HSUM := hid hsum
  clear hsum
  go_enter Tryz.func76, Tryz.ntmps76
  have q4 : w1.cell? ⟨w.heap.size, 4, none⟩ = some (.slice fa free.length fc) := by rw [HW1.out]; simp [go_sem]
  have Q4 := hid q4
  clear q4
  have HC0 : Hid (Counts (w1.alloc (.map #[] 0)) (w.heap.size + 1) 0 (occ (idsE (es.take 0)))) := by
    have h := Counts.made w1
    rw [HS1.out] at h
    have e : occ (idsE (es.take 0)) = fun _ => 0 := by funext j; simp [occ, idsE]
    show Counts _ _ _ _
    rw [e]
    exact h
  have HB0 : Hid (Below w1.heap.size w1 (w1.alloc (.map #[] 0))) := (Below.refl _ w1).alloc (Nat.le_refl _) _
  rw [HW1.out] at HC0 HB0
  go_wp2
  go_loopw [25] (fun i wr => ∃ k : Nat, k ≤ es.length ∧ i = .int .i64 k ∧ Hid (Counts wr (w.heap.size + 1) k (occ (idsE (es.take k)))) ∧ Hid (Below w1.heap.size w1 wr)) (fun i _ => es.length - (intOf i).toNat)
  case atStart => exact ⟨0, Nat.zero_le _, rfl, HC0, by rw [HW1.out]; exact HB0⟩
  case round =>
    clear HC0 HB0
    obtain ⟨k, hk, rfl, HC, HB⟩ := hrel
    have HBw : Hid (Below w.heap.size w wr) := HB1.out.trans (HB.out.mono (by rw [HS1.out]; omega))
    by_cases hlt : k < es.length
    · obtain ⟨b, o, rfl, hb, l0, l1, l2, l3, l4, l5, l6, l7, l8, l9⟩ := (HR.out.below HBw.out).ten hlt
      have hltz : (k : Int) < (es.length : Int) := by omega
      have hwf0 := HWE.out k hlt
      have HT := hid (ids_take hlt)
      generalize rec es k = y at l0 l1 l2 l3 l4 l5 l6 l7 l8 l9 hwf0 HT
      have hf := occ_bd (idsE (es.take k)) (fld y 0)
      have hf2 : (idsE (es.take k)).length ≤ 20 := by simp [idsE]; omega
      obtain ⟨c, hc⟩ : ∃ c, occ (idsE (es.take k)) (fld y 0) = c := ⟨_, rfl⟩
      have hc1 : 0 ≤ c := by omega
      have hc2 : c ≤ 1000 := by omega
      have HCC := hid hc
      have HWF0 := hid hwf0
      clear hf hf2 hc hwf0 b1 hmm
      go_wp2_with (first
        | (at_lookup; refine wp_look_counts _ rfl _ _ rfl (w.heap.size + 1) k _ rfl (HC.out.alloc _) (fld y 0) rfl HWF0.out ?_; rw [HCC.out])
        | (at_mapUpdate; refine wp_store_counts _ rfl _ _ _ rfl (w.heap.size + 1) k _ rfl (HC.out.alloc _) (by omega) (fld y 0) (c + 1) rfl rfl HWF0.out (wf64 (by omega) (by omega)) ?_; intro w2 hcn2 hgr2))
      have HC2 := hid hcn2
      have HG2 := hid hgr2
      clear hcn2 hgr2
      go_roundw
      case rel =>
        refine ⟨k + 1, by omega, by go_num, ?_, ?_⟩
        · show Counts _ _ _ _
          rw [HT.out, ← occ_snoc, HCC.out]
          exact HC2.out
        · exact (HB.out.alloc (by exact HB.out.size) _).grown HG2.out (by have := HB.out.size; simp [go_sem]; omega) (fun j hj => by cases hj; rw [HS1.out]; exact Nat.le_refl _)
      case measure => simp [intOf]; omega
    · have hltz : ¬ (k : Int) < (es.length : Int) := by omega
      have q4 : wr.cell? ⟨w.heap.size, 4, none⟩ = some (.slice fa free.length fc) := (HB.out.cell (p := ⟨w.heap.size, 4, none⟩) (show w.heap.size < w1.heap.size by rw [HS1.out]; omega)).trans Q4.out
      have HC1 : Hid (Counts wr (w.heap.size + 1) (es.length + 0) (occ (idsE es ++ free.take 0))) := by
        have e : es.take k = es := List.take_of_length_le (by omega)
        have h := HC.out
        rw [e] at h
        show Counts _ _ _ _
        rw [List.take_zero, List.append_nil]
        exact h.mono (by omega)
      clear HC b1 hmm HBw
      go_wp2
      clear q4
      go_loopw [38] (fun i wr => ∃ k : Nat, k ≤ free.length ∧ i = .int .i64 k ∧ Hid (Counts wr (w.heap.size + 1) (es.length + k) (occ (idsE es ++ free.take k))) ∧ Hid (Below w1.heap.size w1 wr)) (fun i _ => free.length - (intOf i).toNat)
      case atStart => exact ⟨0, Nat.zero_le _, rfl, HC1, HB⟩
      case round =>
        clear HC1 HB
        obtain ⟨k, hk, rfl, HC, HB⟩ := hrel
        have HBw : Hid (Below w.heap.size w wr) := HB1.out.trans (HB.out.mono (by rw [HS1.out]; omega))
        by_cases hlt : k < free.length
        · obtain ⟨b, o, rfl, l0⟩ := (HF.out.below HBw.out).at hlt
          have hltz : (k : Int) < (free.length : Int) := by omega
          have hwf0 := HWF.out k hlt
          have HT := hid (nums_take hlt)
          generalize fld free k = y at l0 hwf0 HT
          have hf := occ_bd (idsE es ++ free.take k) y
          have hf2 : (idsE es ++ free.take k).length ≤ 220 := by simp [idsE]; omega
          obtain ⟨c, hc⟩ : ∃ c, occ (idsE es ++ free.take k) y = c := ⟨_, rfl⟩
          have hc1 : 0 ≤ c := by omega
          have hc2 : c ≤ 1000 := by omega
          have HCC := hid hc
          have HWF0 := hid hwf0
          clear hf hf2 hc hwf0
          go_wp2_with (first
            | (at_lookup; refine wp_look_counts _ rfl _ _ rfl (w.heap.size + 1) (es.length + k) _ rfl HC.out y rfl HWF0.out ?_; rw [HCC.out])
            | (at_mapUpdate; refine wp_store_counts _ rfl _ _ _ rfl (w.heap.size + 1) (es.length + k) _ rfl HC.out (by omega) y (c + 1) rfl rfl HWF0.out (wf64 (by omega) (by omega)) ?_; intro w2 hcn2 hgr2))
          have HC2 := hid hcn2
          have HG2 := hid hgr2
          clear hcn2 hgr2
          go_roundw
          case rel =>
            refine ⟨k + 1, by omega, by go_num, ?_, ?_⟩
            · show Counts _ _ _ _
              rw [HT.out, ← List.append_assoc, ← occ_snoc, HCC.out]
              exact HC2.out
            · exact HB.out.grown HG2.out HB.out.size (fun j hj => by cases hj; rw [HS1.out]; exact Nat.le_refl _)
          case measure => simp [intOf]; omega
        · have hltz : ¬ (k : Int) < (free.length : Int) := by omega
          have q3 : wr.cell? ⟨w.heap.size, 3, none⟩ = some (.int .i64 nx) := (HB.out.cell (p := ⟨w.heap.size, 3, none⟩) (show w.heap.size < w1.heap.size by rw [HS1.out]; omega)).trans Q3.out
          have HC1 : Hid (Counts wr (w.heap.size + 1) (es.length + k) (occ (idsE es ++ free))) := by
            have e : free.take k = free := List.take_of_length_le (by omega)
            have h := HC.out
            rw [e] at h
            exact h
          clear HC HB
          go_wp2
          go_loop [8] (fun i => ∃ j : Nat, j ≤ (nx - 1).toNat ∧ i = .int .i64 ((j : Int) + 1) ∧ Hid (∀ i, i < j → (idsE es ++ free).count ((i : Int) + 1) = 1)) (fun i => 300 - (intOf i).toNat)
          case atStart => exact ⟨0, Nat.zero_le _, rfl, fun i hi => by omega⟩
          case round =>
            obtain ⟨j, hj, rfl, HN⟩ := hrel
            by_cases hjn : (j : Int) + 1 < nx
            · have hwj : (Lit.int .i64 ((j : Int) + 1)).wf = true := wf64 (by omega) (by omega)
              have HWJ := hid hwj
              clear hwj
              by_cases hone : (idsE es ++ free).count ((j : Int) + 1) = 1
              · have ho : occ (idsE es ++ free) ((j : Int) + 1) = 1 := by unfold occ; rw [hone]; rfl
                have HO := hid ho
                have HN2 : Hid (∀ i, i < j + 1 → (idsE es ++ free).count ((i : Int) + 1) = 1) := fun i hi => by
                  by_cases e : i = j
                  · rw [e]; exact hone
                  · exact HN.out i (by omega)
                clear hone ho HN
                go_wp2_with (at_lookup; refine wp_look_counts _ rfl _ _ rfl (w.heap.size + 1) _ _ rfl HC1.out ((j : Int) + 1) rfl HWJ.out ?_; rw [HO.out])
                go_round
                case rel => exact ⟨j + 1, by omega, by go_num, HN2⟩
                case measure => simp [intOf]; omega
              · have HE : Hid (freeE nx es free = 3) := freeE_neg2 (j := j) (by omega) hone
                obtain ⟨c, hc⟩ : ∃ c, occ (idsE es ++ free) ((j : Int) + 1) = c := ⟨_, rfl⟩
                have hb1 : (c != 1) = true := by
                  rw [bne_iff_ne]
                  intro e
                  rw [← hc] at e
                  unfold occ at e
                  omega
                have HCC := hid hc
                clear hone hc HN
                go_wp2_with (at_lookup; refine wp_look_counts _ rfl _ _ rfl (w.heap.size + 1) _ _ rfl HC1.out ((j : Int) + 1) rfl HWJ.out ?_; rw [HCC.out])
                go_ret
                exact ⟨retE (c := 3) HE.out.symm rfl, HBw.out⟩
            · have HE : Hid (freeE nx es free = 0) := freeE_pos HSUM.out (fun i hi => HN.out i (by omega))
              clear HN
              go_wp2
              go_ret
              exact ⟨retE (c := 0) HE.out.symm rfl, HBw.out⟩
end Go.Proofs.YtcbalhicaipmlaaGreat
namespace Go.Proofs.YtcbalhicaipmlaaGreat
open Go.RowKit Go.Maps
def firstE (n : Nat) (f : Nat → Nat) : Nat :=
  match (List.range n).find? (fun i => f i != 0) with
  | some i => f i
  | none => 0
theorem firstE_some {n : Nat} {f : Nat → Nat} {k : Nat} (hk : k < n) (hn : ∀ i, i < k → f i = 0) (he : f k ≠ 0) : firstE n f = f k := by
  have h : (List.range n).find? (fun i => f i != 0) = some k := by
    rw [List.find?_range_eq_some]
    refine ⟨by simpa using he, by simpa using hk, fun j hj => by simpa using hn j hj⟩
  unfold firstE
  rw [h]
theorem firstE_none {n : Nat} {f : Nat → Nat} (hn : ∀ i, i < n → f i = 0) : firstE n f = 0 := by
  have h : (List.range n).find? (fun i => f i != 0) = none := by
    rw [List.find?_eq_none]
    intro i hi
    have := hn i (by simpa using hi)
    simpa using this
  unfold firstE
  rw [h]
def aimOkE (es : List (List Int)) (i : Nat) : Prop := 0 < fld (rec es i) 9 → aimE es (rec es i) (fld (rec es i) 6) (fld (rec es i) 9) = true
instance (es : List (List Int)) (i : Nat) : Decidable (aimOkE es i) := by unfold aimOkE; infer_instance
def checkE (t g0 g1 nx : Int) (free : List Int) (es : List (List Int)) : Nat :=
  if stateE t g0 g1 nx free.length es.length = 0 then
    if firstE es.length (entE nx es) = 0 then
      if ∀ i, i < es.length → aimOkE es i then freeE nx es free else 3
    else firstE es.length (entE nx es)
  else stateE t g0 g1 nx free.length es.length
theorem stateE_zero {t g0 g1 nx : Int} {nf ne : Nat} (h : stateE t g0 g1 nx nf ne = 0) : (0 ≤ t ∧ t ≤ 60) ∧ (1 ≤ nx ∧ nx ≤ 201) ∧ (0 ≤ g0 ∧ g0 ≤ 40) ∧ (0 ≤ g1 ∧ g1 ≤ 40) ∧ ne ≤ 20 ∧ nf ≤ 200 := by
  unfold stateE at h
  split at h
  next h1 =>
    split at h
    next h2 =>
      split at h
      next h3 =>
        split at h
        · omega
        next h4 =>
          simp only [inZ, decide_eq_true_eq] at h1 h2 h3
          omega
      · omega
    · omega
  · omega
theorem entE_zero {nx : Int} {es : List (List Int)} {i : Nat} (h : entE nx es i = 0) : boundsE (rec es i) = true ∧ ownerE (rec es i) = true ∧ placeE (rec es i) = true ∧ targetE (rec es i) = true ∧ (0 < i → fld (rec es (i - 1)) 0 < fld (rec es i) 0) ∧ fld (rec es i) 0 < nx ∧ idxZ (isAt (fld (rec es i) 3) (fld (rec es i) 4)) (es.take i) < 0 := by
  unfold entE at h
  split at h
  next h1 =>
    split at h
    next h2 =>
      split at h
      · omega
      next h3 =>
        split at h
        · omega
        next h4 =>
          refine ⟨h1, h2.1, h2.2.1, h2.2.2, fun hi => ?_, ?_, by omega⟩
          · by_cases hle : fld (rec es i) 0 ≤ fld (rec es (i - 1)) 0
            · exact absurd (Or.inl ⟨hi, hle⟩) h3
            · omega
          · by_cases hle : nx ≤ fld (rec es i) 0
            · exact absurd (Or.inr hle) h3
            · omega
    · omega
  · omega
theorem boundsE_true {u : List Int} (h : boundsE u = true) : (1 ≤ fld u 2 ∧ fld u 2 ≤ 5) ∧ (1 ≤ fld u 0 ∧ fld u 0 ≤ 200) ∧ ((0 ≤ fld u 3 ∧ fld u 3 < 12) ∧ 0 ≤ fld u 4 ∧ fld u 4 < 12) ∧ (1 ≤ fld u 5 ∧ fld u 5 ≤ mostZ (fld u 2)) ∧ (0 ≤ fld u 6 ∧ fld u 6 ≤ 3) ∧ (0 ≤ fld u 9 ∧ fld u 9 ≤ 200) := by
  unfold boundsE at h
  simp only [Bool.and_eq_true] at h
  obtain ⟨h1, h2, h3, h4, h5, h6⟩ := h
  simp only [inZ, decide_eq_true_eq] at h2 h4 h5 h6
  simp only [Pl.eHas, decide_eq_true_eq] at h1
  exact ⟨h1, h2, Pl.onB_true h3, h4, h5, h6⟩
theorem errV_pos {c : Nat} (h : c ≠ 0) : errV c = .iface 86 (.int .i64 c) := by unfold errV; rw [if_neg h]
theorem box_new {w W w1 : World} {t g0 g1 nx : Int} {fv ev : Value} (hw1 : w1 = w.alloc (.cells #[.int .i64 t, .int .i64 g0, .int .i64 g1, .int .i64 nx, fv, ev] 26)) (hb : Below w1.heap.size w1 W) :
    W.cell? ⟨w.heap.size, 0, none⟩ = some (.int .i64 t) ∧ W.cell? ⟨w.heap.size, 1, none⟩ = some (.int .i64 g0) ∧ W.cell? ⟨w.heap.size, 2, none⟩ = some (.int .i64 g1) ∧ W.cell? ⟨w.heap.size, 3, none⟩ = some (.int .i64 nx) ∧ W.cell? ⟨w.heap.size, 4, none⟩ = some fv ∧ W.cell? ⟨w.heap.size, 5, none⟩ = some ev := by
  have hs : w1.heap.size = w.heap.size + 1 := by rw [hw1]; simp [go_sem]
  have g : ∀ j, W.cell? ⟨w.heap.size, j, none⟩ = (#[.int .i64 t, .int .i64 g0, .int .i64 g1, .int .i64 nx, fv, ev] : Array Value)[j]? := fun j =>
    (hb.cell (p := ⟨w.heap.size, j, none⟩) (show w.heap.size < w1.heap.size by omega)).trans (by rw [hw1]; exact World.cell?_alloc_at _ _ _ _ rfl)
  exact ⟨g 0, g 1, g 2, g 3, g 4, g 5⟩
set_option maxRecDepth 100000 in
set_option maxHeartbeats 8000000 in
theorem check_calls (t g0 g1 nx : Int) (free : List Int) (fa ea : Option Addr) (fc ec : Nat) (es : List (List Int)) (w : World) (hcap : es.length ≤ ec)
    (hrow : Recs w ea 10 es) (hfr : Nums w fa free) (hwf : ∀ i, i < free.length → (Lit.int .i64 (fld free i)).wf = true) :
    Calls Tryz.prog 36 #[elderV t g0 g1 nx (.slice fa free.length fc) (.slice ea es.length ec)] w fun e w' => e = .returned (errV (checkE t g0 g1 nx free es)) ∧ Below w.heap.size w w' := by
  have HR := hid hrow
  have HF := hid hfr
  have HWF := hid hwf
  clear hrow hfr hwf
  obtain ⟨w1, hw1⟩ : ∃ w1, w1 = w.alloc (.cells #[.int .i64 t, .int .i64 g0, .int .i64 g1, .int .i64 nx, .slice fa free.length fc, .slice ea es.length ec] 26) := ⟨_, rfl⟩
  have HB1 : Hid (Below w.heap.size w w1) := by rw [hw1]; exact (Below.refl _ w).alloc (Nat.le_refl _) _
  have HS1 : Hid (w1.heap.size = w.heap.size + 1) := by rw [hw1]; show _ = _; simp [go_sem]
  have HW1 := hid hw1
  clear hw1
  go_enter Tryz.func36, Tryz.ntmps36
  go_wp2_with fail
  rw [← HW1.out]
  refine (checkState_calls t g0 g1 nx fa ea free.length fc es.length ec _).mono ?_
  rintro e w2 ⟨rfl, hb2⟩
  have HB2 := hid hb2
  clear hb2
  by_cases hst : stateE t g0 g1 nx free.length es.length = 0
  case neg =>
    have HE : Hid (checkE t g0 g1 nx free es = stateE t g0 g1 nx free.length es.length) := by show _ = _; unfold checkE; rw [if_neg hst]
    have HBw : Hid (Below w.heap.size w w2) := HB1.out.trans (HB2.out.mono (by rw [HS1.out]; omega))
    have HV := hid (errV_pos hst)
    rw [HV.out]
    clear hst
    go_wp2
    go_ret
    exact ⟨retE (c := _) HE.out.symm HV.out.symm, HBw.out⟩
  rw [hst, errV_0]
  have HST := hid hst
  obtain ⟨ht, hnx, hg0, hg1, hne, hnf⟩ := stateE_zero hst
  clear hst ht hg0 hg1
  obtain ⟨q0, q1, q2, q3, q4, q5⟩ := box_new HW1.out HB2.out
  go_wp2
  clear q0 q1 q2 q3 q4 q5
  go_loopw [16] (fun i wr => ∃ k : Nat, k ≤ es.length ∧ i = .int .i64 k ∧ Hid (∀ i, i < k → entE nx es i = 0) ∧ Hid (Below w1.heap.size w1 wr)) (fun i _ => es.length - (intOf i).toNat)
  case atStart => exact ⟨0, Nat.zero_le _, rfl, fun i hi => by omega, HB2⟩
  case round =>
    clear HB2
    obtain ⟨k, hk, rfl, HN, HB⟩ := hrel
    have HBw : Hid (Below w.heap.size w wr) := HB1.out.trans (HB.out.mono (by rw [HS1.out]; omega))
    obtain ⟨q0, q1, q2, q3, q4, q5⟩ := box_new HW1.out HB.out
    by_cases hlt : k < es.length
    · have hltz : (k : Int) < (es.length : Int) := by omega
      go_wp2_with fail
      refine (checkEnt_calls t g0 g1 nx _ es ea ec k _ hlt (by omega) hcap (HR.out.below HBw.out)).mono ?_
      rintro e w3 ⟨rfl, hb3⟩
      have HB3 : Hid (Below w1.heap.size w1 w3) := HB.out.trans (hb3.mono HB.out.size)
      clear hb3 q0 q1 q2 q3 q4 q5 HB HBw
      by_cases hz : entE nx es k = 0
      · have HN2 : Hid (∀ i, i < k + 1 → entE nx es i = 0) := fun i hi => by
          by_cases e : i = k
          · rw [e]; exact hz
          · exact HN.out i (by omega)
        rw [hz, errV_0]
        clear hz HN
        go_wp2
        go_roundw
        case rel => exact ⟨k + 1, by omega, by go_num, HN2, HB3⟩
        case measure => simp [intOf]; omega
      · have HE : Hid (checkE t g0 g1 nx free es = entE nx es k) := by
          show _ = _
          unfold checkE
          rw [if_pos HST.out, firstE_some hlt HN.out hz, if_neg hz]
        have HV := hid (errV_pos hz)
        have HBw : Hid (Below w.heap.size w w3) := HB1.out.trans (HB3.out.mono (by rw [HS1.out]; omega))
        rw [HV.out]
        clear hz HN
        go_wp2
        go_ret
        exact ⟨retE HE.out.symm HV.out.symm, HBw.out⟩
    · have hltz : ¬ (k : Int) < (es.length : Int) := by omega
      have HN2 : Hid (∀ i, i < es.length → entE nx es i = 0) := fun i hi => HN.out i (by omega)
      clear HN HBw
      go_wp2
      clear q0 q1 q2 q3 q4 q5
      go_loopw [29] (fun i wr => ∃ k : Nat, k ≤ es.length ∧ i = .int .i64 k ∧ Hid (∀ i, i < k → aimOkE es i) ∧ Hid (Below w1.heap.size w1 wr)) (fun i _ => es.length - (intOf i).toNat)
      case atStart => exact ⟨0, Nat.zero_le _, rfl, fun i hi => by omega, HB⟩
      case round =>
        clear HB
        obtain ⟨k, hk, rfl, HN, HB⟩ := hrel
        have HBw : Hid (Below w.heap.size w wr) := HB1.out.trans (HB.out.mono (by rw [HS1.out]; omega))
        obtain ⟨q0, q1, q2, q3, q4, q5⟩ := box_new HW1.out HB.out
        have hsz : w.heap.size < wr.heap.size := by have := HB.out.size; rw [HS1.out] at this; omega
        by_cases hlt : k < es.length
        · have hltz : (k : Int) < (es.length : Int) := by omega
          obtain ⟨b, o, rfl, hb, l0, l1, l2, l3, l4, l5, l6, l7, l8, l9⟩ := (HR.out.below HBw.out).ten hlt
          have HRw := hid (HR.out.below HBw.out)
          by_cases htg : 0 < fld (rec es k) 9
          · have HA : Hid (Calls Tryz.prog 75 #[.slice (some ⟨b, o, none⟩) es.length ec, entV (rec es k), .int .i64 (fld (rec es k) 6), .int .i64 (fld (rec es k) 9)] (wr.alloc (.cells (entC (rec es k)) 119)) fun e w' => e = .returned (.bool (aimE es (rec es k) (fld (rec es k) 6) (fld (rec es k) 9))) ∧ Below (wr.heap.size + 1) (wr.alloc (.cells (entC (rec es k)) 119)) w') := by
              have h := mayAim_calls es (some ⟨b, o, none⟩) ec (rec es k) (fld (rec es k) 6) (fld (rec es k) 9) (wr.alloc (.cells (entC (rec es k)) 119)) (by omega) (HRw.out.below ((Below.refl _ wr).alloc (Nat.le_refl _) _))
              have e1 : (wr.alloc (.cells (entC (rec es k)) 119)).heap.size = wr.heap.size + 1 := by simp [go_sem]
              rw [e1] at h
              exact h
            have HOK : Hid (aimE es (rec es k) (fld (rec es k) 6) (fld (rec es k) 9) = true → aimOkE es k) := fun h _ => h
            have HNO : Hid (aimE es (rec es k) (fld (rec es k) 6) (fld (rec es k) 9) = false → ¬ aimOkE es k) := fun h g => by
              have := g htg
              rw [h] at this
              exact absurd this (by simp)
            clear HRw
            generalize aimE es (rec es k) (fld (rec es k) 6) (fld (rec es k) 9) = ab at HA HOK HNO
            generalize rec es k = y at l0 l1 l2 l3 l4 l5 l6 l7 l8 l9 htg HA
            go_wp2_with fail
            refine HA.out.mono ?_
            clear HA
            rintro e w3 ⟨rfl, hb3⟩
            have HB3 : Hid (Below w1.heap.size w1 w3) := (HB.out.alloc HB.out.size _).trans (hb3.mono (by have := HB.out.size; omega))
            clear hb3 l0 l1 l2 l3 l4 l5 l6 l7 l8 l9 q0 q1 q2 q3 q4 q5 HB HBw
            cases ab with
            | true =>
              have HN2 : Hid (∀ i, i < k + 1 → aimOkE es i) := fun i hi => by
                by_cases e : i = k
                · rw [e]; exact HOK.out rfl
                · exact HN.out i (by omega)
              clear HOK HNO HN
              go_wp2
              go_roundw
              case rel => exact ⟨k + 1, by omega, by go_num, HN2, HB3⟩
              case measure => simp [intOf]; omega
            | false =>
              have HE : Hid (checkE t g0 g1 nx free es = 3) := by
                show _ = _
                unfold checkE
                rw [if_pos HST.out, firstE_none HN2.out, if_pos rfl, if_neg (fun h => HNO.out rfl (h k hlt))]
              have HBw : Hid (Below w.heap.size w w3) := HB1.out.trans (HB3.out.mono (by rw [HS1.out]; omega))
              clear HOK HNO HN
              go_wp2
              go_ret
              exact ⟨retE (c := 3) HE.out.symm rfl, HBw.out⟩
          · have HN3 : Hid (∀ i, i < k + 1 → aimOkE es i) := fun i hi => by
              by_cases e : i = k
              · rw [e]; exact fun h => absurd h htg
              · exact HN.out i (by omega)
            have HB3 : Hid (Below w1.heap.size w1 (wr.alloc (.cells (entC (rec es k)) 119))) := HB.out.alloc HB.out.size _
            clear HN HRw
            generalize rec es k = y at l0 l1 l2 l3 l4 l5 l6 l7 l8 l9 htg HB3
            go_wp2
            go_roundw
            case rel => exact ⟨k + 1, by omega, by go_num, HN3, HB3⟩
            case measure => simp [intOf]; omega
        · have hltz : ¬ (k : Int) < (es.length : Int) := by omega
          have HE : Hid (checkE t g0 g1 nx free es = freeE nx es free) := by
            show _ = _
            unfold checkE
            rw [if_pos HST.out, firstE_none HN2.out, if_pos rfl, if_pos (fun i hi => HN.out i (by omega))]
          have HC : Hid (Calls Tryz.prog 76 #[elderV t g0 g1 nx (.slice fa free.length fc) (.slice ea es.length ec)] wr fun e w' => e = .returned (errV (freeE nx es free)) ∧ Below wr.heap.size wr w') :=
            checkFree_calls t g0 g1 nx free fa ea fc ec es wr hnx hne hnf (HR.out.below HBw.out) (HF.out.below HBw.out) (fun i hi => by
              have h := (boundsE_true (entE_zero (HN2.out i hi)).1).2.1
              exact wf64 (by omega) (by omega)) HWF.out
          clear HN HN2 HB
          go_wp2_with fail
          refine HC.out.mono ?_
          rintro e w4 ⟨rfl, hb4⟩
          have HB4 : Hid (Below w.heap.size w w4) := HBw.out.trans (hb4.mono (by omega))
          clear hb4 HC
          go_wp2
          go_ret
          exact ⟨retE HE.out.symm rfl, HB4.out⟩
end Go.Proofs.YtcbalhicaipmlaaGreat
