/- A tick under way: what one wishes. -/
import Derived.Test.YtakmjfchhchngaaHd
import Derived.Test.YtakmjfchhchngaaInvZ
namespace Go.Proofs.Ytakmjfchhchngaa
open Go.RowKit Go.Maps

theorem Counts.look {w : World} {B n : Nat} {f : Int → Int} (h : Counts w B n f) {id : Int} (hwf : (Lit.int .i64 id).wf = true) :
    (Instr.lookup 123 (.map (some B)) (.int .i64 id) false).run Try.prog w = .ok (.int .i64 (f id)) w := by
  obtain ⟨D, h1, h2, h3⟩ := h
  obtain ⟨c, hr, hat, _⟩ := h1.lookup_int intKey Try.underlying123 Try.underlying3 (intZero _) (keyOf_int_mk Try.underlying3 hwf)
  have := (h3 id hwf).symm.trans hat
  simp only [DataW.lit.injEq, Lit.int.injEq, true_and] at this
  rw [hr, this]

def wishR (es : List (List Int)) (was : Int → Int) (u : List Int) (v : Value) : Prop := ∃ x y : Int, v = .tuple #[.agg #[.int .i64 x, .int .i64 y], .bool (wishE es was u).isSome] ∧ ∀ q, wishE es was u = some q → q = (x, y)

theorem wishE_none {es : List (List Int)} {was : Int → Int} {u : List Int} (h : ¬ (headB es u = true ∧ was (fld u 0) ≠ 0 ∧ Pl.eSpeed (fld u 2) ≠ 0)) : wishE es was u = none := by
  unfold wishE
  rw [if_neg (fun x => h ⟨x.1, x.2.1, x.2.2.1⟩)]

set_option maxRecDepth 100000 in
set_option maxHeartbeats 8000000 in
theorem wish_calls (base p : Nat) (s : St) (was : Int → Int) (u : List Int) (w : World) (hn : s.es.length ≤ 100) (hu : OnU u) (ha : AimU s.es u) (hh : headB s.es u = true → (0 ≤ headX s.es u ∧ headX s.es u < 12) ∧ 0 ≤ headY s.es u ∧ headY s.es u < 12) (hwf : (Lit.int .i64 (fld u 0)).wf = true) (h : GmE base w p s was) :
    Calls Try.prog 106 #[.pointer (some ⟨p, 0, none⟩), entV u] w fun e w' => ∃ v, e = .returned v ∧ wishR s.es was u v ∧ Below w.heap.size w w' := by
  have HG := hid h
  obtain ⟨ev, fv, bv, B, hGm⟩ := h
  have hlt := hGm.lt
  obtain ⟨W, hW⟩ : ∃ W, (w.alloc (.cells (entC u) 86)).alloc (.cells #[.int .i64 0, .int .i64 0] 162) = W := ⟨_, rfl⟩
  have hbW : Below w.heap.size w W := by rw [← hW]; exact ((Below.refl _ w).alloc (Nat.le_refl _) _).alloc (by simp [go_sem]) _
  have hsW : W.heap.size = w.heap.size + 2 := by rw [← hW]; simp [go_sem]
  have hh0 : W.heap[w.heap.size]? = some (.cells (entC u) 86) := by
    rw [← hW, heap_alloc_old _ _ (by simp [go_sem])]
    exact heap_alloc_new w _
  have hh1 : W.heap[w.heap.size + 1]? = some (.cells #[.int .i64 0, .int .i64 0] 162) := by
    have e : w.heap.size + 1 = (w.alloc (.cells (entC u) 86)).heap.size := by simp [go_sem]
    rw [← hW, e]
    exact heap_alloc_new _ _
  have c0 : ∀ j, W.cell? ⟨w.heap.size, j, none⟩ = (entC u)[j]? := fun j => cell_of_row W _ j _ _ _ hh0
  have x0 : W.cell? ⟨w.heap.size, 0, none⟩ = some (.int .i64 (fld u 0)) := c0 0
  have x1 : W.cell? ⟨w.heap.size, 1, none⟩ = some (.int .i64 (fld u 1)) := c0 1
  have x2 : W.cell? ⟨w.heap.size, 2, none⟩ = some (.int .i64 (fld u 2)) := c0 2
  have x3 : W.cell? ⟨w.heap.size, 3, none⟩ = some (.int .i64 (fld u 3)) := c0 3
  have x4 : W.cell? ⟨w.heap.size, 4, none⟩ = some (.int .i64 (fld u 4)) := c0 4
  have x5 : W.cell? ⟨w.heap.size, 5, none⟩ = some (.int .i64 (fld u 5)) := c0 5
  have x6 : W.cell? ⟨w.heap.size, 6, none⟩ = some (.int .i64 (fld u 6)) := c0 6
  have x7 : W.cell? ⟨w.heap.size, 7, none⟩ = some (.int .i64 (fld u 7)) := c0 7
  have x8 : W.cell? ⟨w.heap.size, 8, none⟩ = some (.int .i64 (fld u 8)) := c0 8
  have x9 : W.cell? ⟨w.heap.size, 9, none⟩ = some (.int .i64 (fld u 9)) := c0 9
  have HBW := hid hbW
  have HSW := hid hsW
  have H0 := hid hh0
  have H1 := hid hh1
  have HC := hid (heading_calls base p s was u W hn hu ha (HG.out.below hbW))
  have HM := hid (hGm.below hbW)
  have HU := hid hu
  have HH := hid hh
  have HWF := hid hwf
  clear hbW hsW hh0 hh1 c0 hu ha hGm hh hwf
  go_enter Try.func106, Try.ntmps106
  go_wp2_with fail
  refine HC.out.mono ?_
  rintro e w2 ⟨rfl, hb2⟩
  clear HC x0 x1 x2 x3 x4 x5 x6 x7 x8 x9 hW
  go_wp2_with fail
  obtain ⟨V, hV⟩ : ∃ V, w2.alloc (.cells #[.int .i64 (headX s.es u), .int .i64 (headY s.es u)] 162) = V := ⟨_, rfl⟩
  have hbV : Below W.heap.size W V := by rw [← hV]; exact hb2.alloc hb2.size _
  have hVb : V.heap[w2.heap.size]? = some (.cells #[.int .i64 (headX s.es u), .int .i64 (headY s.es u)] 162) := by rw [← hV]; exact heap_alloc_new _ _
  have hsV : w2.heap.size < V.heap.size := (Array.getElem?_eq_some_iff.1 hVb).1
  have hs2 : w.heap.size + 2 ≤ w2.heap.size := by have := hb2.size; rw [HSW.out] at this; exact this
  rw [hV]
  have HBV := hid hbV
  have HVb := hid hVb
  clear hV hb2 hVb
  have S6 : ∀ w', Below V.heap.size V w' → w'.cell? ⟨p, 6, none⟩ = some (.map (some B)) := fun w' h => ((h.mono hbV.size).cell (p := ⟨p, 6, none⟩) (show p < W.heap.size by rw [HSW.out]; omega)).trans ((hbV.cell (p := ⟨p, 6, none⟩) (show p < W.heap.size by rw [HSW.out]; omega)).trans (HM.out.cell 6))
  have SK : ∀ w', Below V.heap.size V w' → (Instr.lookup 123 (.map (some B)) (.int .i64 (fld u 0)) false).run Try.prog w' = .ok (.int .i64 (was (fld u 0))) w' := fun w' h => ((HM.out.ct.below hbV).below h).look HWF.out
  have KX : ∀ j w', Below V.heap.size V w' → w'.cell? ⟨w.heap.size, j, none⟩ = (entC u)[j]? := fun j w' h => cell_of_row w' _ j _ _ _ ((h.block _ (show w.heap.size < V.heap.size by omega)).trans ((hbV.block _ (by rw [HSW.out]; omega)).trans H0.out))
  have x0 : ∀ w', Below V.heap.size V w' → w'.cell? ⟨w.heap.size, 0, none⟩ = some (.int .i64 (fld u 0)) := KX 0
  have x1 : ∀ w', Below V.heap.size V w' → w'.cell? ⟨w.heap.size, 1, none⟩ = some (.int .i64 (fld u 1)) := KX 1
  have x2 : ∀ w', Below V.heap.size V w' → w'.cell? ⟨w.heap.size, 2, none⟩ = some (.int .i64 (fld u 2)) := KX 2
  have x3 : ∀ w', Below V.heap.size V w' → w'.cell? ⟨w.heap.size, 3, none⟩ = some (.int .i64 (fld u 3)) := KX 3
  have x4 : ∀ w', Below V.heap.size V w' → w'.cell? ⟨w.heap.size, 4, none⟩ = some (.int .i64 (fld u 4)) := KX 4
  have x5 : ∀ w', Below V.heap.size V w' → w'.cell? ⟨w.heap.size, 5, none⟩ = some (.int .i64 (fld u 5)) := KX 5
  have x6 : ∀ w', Below V.heap.size V w' → w'.cell? ⟨w.heap.size, 6, none⟩ = some (.int .i64 (fld u 6)) := KX 6
  have x7 : ∀ w', Below V.heap.size V w' → w'.cell? ⟨w.heap.size, 7, none⟩ = some (.int .i64 (fld u 7)) := KX 7
  have x8 : ∀ w', Below V.heap.size V w' → w'.cell? ⟨w.heap.size, 8, none⟩ = some (.int .i64 (fld u 8)) := KX 8
  have x9 : ∀ w', Below V.heap.size V w' → w'.cell? ⟨w.heap.size, 9, none⟩ = some (.int .i64 (fld u 9)) := KX 9
  have P0 : ∀ w', Below V.heap.size V w' → w'.heap[w2.heap.size]? = some (.cells #[.int .i64 (headX s.es u), .int .i64 (headY s.es u)] 162) := fun w' h => (h.block _ hsV).trans HVb.out
  have P1 : ∀ w', Below V.heap.size V w' → w'.heap[w.heap.size + 1]? = some (.cells #[.int .i64 0, .int .i64 0] 162) := fun w' h => (h.block _ (show w.heap.size + 1 < V.heap.size by omega)).trans ((hbV.block _ (by rw [HSW.out]; omega)).trans H1.out)
  have HP0 := hid P0
  have HP1 := hid P1
  clear KX hbV P0 P1
  have fr := field_rule2
  have HN : Hid (∀ (wx : World), Below V.heap.size V wx → Below w.heap.size w wx) := fun wx h => HBW.out.trans ((HBV.out.mono (by rw [HSW.out]; omega)).trans (h.mono (by omega)))
  cases hb : headB s.es u with
  | false =>
    have HE : Hid (wishE s.es was u = none) := wishE_none (fun h => by rw [hb] at h; exact absurd h.1 (by simp))
    have hq1 := HP1.out V (Below.refl _ _)
    have q0 := cell_of_row V _ 0 _ _ _ hq1
    have q1 := cell_of_row V _ 1 _ _ _ hq1
    have qf0 := frozen_of_row V (w.heap.size + 1) 0 _ _ hq1
    have qf1 := frozen_of_row V (w.heap.size + 1) 1 _ _ hq1
    clear S6 SK x0 x1 x2 x3 x4 x5 x6 x7 x8 x9 hb
    go_quiet (fail)
    go_wp2
    exact bodyPost_ret (v := .tuple #[.agg #[.int .i64 0, .int .i64 0], .bool false]) (by simp [results, Try.results106, go_sem, q0, q1]) rfl ⟨_, rfl, ⟨0, 0, by rw [HE.out]; rfl, fun q h => by rw [HE.out] at h; cases h⟩, ((HN.out _ (below_drewN (Below.refl _ _) _)).setCell (p := ⟨w.heap.size + 1, 0, none⟩) (Nat.le_succ _) _).setCell (p := ⟨w.heap.size + 1, 1, none⟩) (Nat.le_succ _) _⟩
  | true =>
    have HHB := hid hb
    clear hb
    go_cut [33] (fun r wx => r = .bool (was (fld u 0) == 0 || Pl.eSpeed (fld u 2) == 0) ∧ Hid (Below V.heap.size V wx))
    case first =>
      cases hw0 : (was (fld u 0) == 0) with
      | true =>
        have hq : ∀ n, Below V.heap.size V (V.drewN n) := fun n => below_drewN (Below.refl _ _) n
        have S6' := S6 V (Below.refl _ _)
        have x0' := x0 V (Below.refl _ _)
        clear S6 x0 x1 x2 x3 x4 x5 x6 x7 x8 x9
        go_quiet (fail)
        go_wp2
        go_meet
        exact ⟨by rw [hw0]; rfl, below_drewN (Below.refl _ _) _⟩
      | false =>
        cases hsp : (Pl.eSpeed (fld u 2) == 0)
        all_goals
          go_region_held3 (fun w' => Below V.heap.size V w') (first | with_reducible exact HB3.out | with_reducible exact (Below.refl _ _).drew)
            (first
              | (go_at_call 102; refine (rule_elder_calls u _).mono ?_; rintro e w3 ⟨rfl, hb3⟩; have HB3 : Hid (Below V.heap.size V w3) := Below.trans (by assumption) (hb3.mono (Below.size (by assumption))); clear hb3))
          all_goals
            go_wp2
            go_meet
            exact ⟨by rw [hw0, hsp]; rfl, HB3⟩
    case rest =>
      obtain ⟨rfl, HBc⟩ := hcut
      have hq1 := HP1.out wc HBc.out
      have q0 := cell_of_row wc _ 0 _ _ _ hq1
      have q1 := cell_of_row wc _ 1 _ _ _ hq1
      have qf0 := frozen_of_row wc (w.heap.size + 1) 0 _ _ hq1
      have qf1 := frozen_of_row wc (w.heap.size + 1) 1 _ _ hq1
      have x3' := x3 wc HBc.out
      have x4' := x4 wc HBc.out
      have hq2 := HP0.out wc HBc.out
      have t0 := cell_of_row wc _ 0 _ _ _ hq2
      have t1 := cell_of_row wc _ 1 _ _ _ hq2
      clear S6 SK x0 x1 x2 x3 x4 x5 x6 x7 x8 x9 hq1 hq2
      cases hst : (was (fld u 0) == 0 || Pl.eSpeed (fld u 2) == 0) with
      | true =>
        have HE : Hid (wishE s.es was u = none) := wishE_none (fun h => by
          rw [Bool.or_eq_true, beq_iff_eq, beq_iff_eq] at hst
          rcases hst with e | e
          · exact h.2.1 e
          · exact h.2.2 e)
        clear hst
        go_wp2
        exact bodyPost_ret (v := .tuple #[.agg #[.int .i64 0, .int .i64 0], .bool false]) (by simp [results, Try.results106, go_sem, q0, q1]) rfl ⟨_, rfl, ⟨0, 0, by rw [HE.out]; rfl, fun q h => by rw [HE.out] at h; cases h⟩, ((HN.out _ HBc.out).setCell (p := ⟨w.heap.size + 1, 0, none⟩) (Nat.le_succ _) _).setCell (p := ⟨w.heap.size + 1, 1, none⟩) (Nat.le_succ _) _⟩
      | false =>
        have HST := hid hst
        clear hst
        go_wp2_with fail
        refine (toward_calls _ _ _ _ HU.out (HH.out HHB.out) _).mono ?_
        rintro e w4 ⟨rfl, rfl⟩
        go_wp2_with fail
        have hna : (headB s.es u = true ∧ was (fld u 0) ≠ 0 ∧ Pl.eSpeed (fld u 2) ≠ 0) := by
          have h := HST.out
          rw [Bool.or_eq_false_iff, beq_eq_false_iff_ne, beq_eq_false_iff_ne] at h
          exact ⟨HHB.out, h.1, h.2⟩
        have HE : Hid (wishE s.es was u = if Pl.nearZ (fld u 3) (headX s.es u) ≠ fld u 3 ∨ Pl.nearZ (fld u 4) (headY s.es u) ≠ fld u 4 then some (Pl.nearZ (fld u 3) (headX s.es u), Pl.nearZ (fld u 4) (headY s.es u)) else none) := by
          show _ = _
          unfold wishE
          by_cases hd : Pl.nearZ (fld u 3) (headX s.es u) ≠ fld u 3 ∨ Pl.nearZ (fld u 4) (headY s.es u) ≠ fld u 4
          · rw [if_pos ⟨hna.1, hna.2.1, hna.2.2, hd⟩, if_pos hd]
          · rw [if_neg (fun h => hd h.2.2.2), if_neg hd]
        clear hna t0 t1
        generalize hX : Pl.nearZ (fld u 3) (headX s.es u) = X at HE ⊢
        generalize hY : Pl.nearZ (fld u 4) (headY s.es u) = Y at HE ⊢
        clear hX hY
        cases h3 : (X == fld u 3) with
        | false =>
          have HS : Hid (wishE s.es was u = some (X, Y)) := by
            show _ = _
            rw [HE.out, if_pos (Or.inl (by simpa using h3))]
          have n3 : (X != fld u 3) = true := by rw [bne, h3]; rfl
          clear h3 HE
          go_region
          all_goals
            go_wp2
            exact bodyPost_ret (v := .tuple #[.agg #[.int .i64 X, .int .i64 Y], .bool true]) (by simp [results, Try.results106, go_sem, q0, q1]) rfl ⟨_, rfl, ⟨X, Y, by rw [HS.out]; rfl, fun q h => by rw [HS.out] at h; cases h; rfl⟩, ((HN.out _ HBc.out.drew).setCell (p := ⟨w.heap.size + 1, 0, none⟩) (Nat.le_succ _) _).setCell (p := ⟨w.heap.size + 1, 1, none⟩) (Nat.le_succ _) _⟩
        | true =>
          have n3 : (X != fld u 3) = false := by rw [bne, h3]; rfl
          cases h4 : (Y == fld u 4)
          · have HS : Hid (wishE s.es was u = some (X, Y)) := by
              show _ = _
              rw [HE.out, if_pos (Or.inr (by simpa using h4))]
            have n4 : (Y != fld u 4) = true := by rw [bne, h4]; rfl
            clear h3 h4 HE
            go_region
            all_goals
              go_wp2
              exact bodyPost_ret (v := .tuple #[.agg #[.int .i64 X, .int .i64 Y], .bool true]) (by simp [results, Try.results106, go_sem, q0, q1]) rfl ⟨_, rfl, ⟨X, Y, by rw [HS.out]; rfl, fun q h => by rw [HS.out] at h; cases h; rfl⟩, ((HN.out _ HBc.out.drew).setCell (p := ⟨w.heap.size + 1, 0, none⟩) (Nat.le_succ _) _).setCell (p := ⟨w.heap.size + 1, 1, none⟩) (Nat.le_succ _) _⟩
          · have HS : Hid (wishE s.es was u = none) := by
              show _ = _
              rw [HE.out, if_neg (by rw [beq_iff_eq] at h3 h4; exact fun h => h.elim (fun x => x h3) (fun x => x h4))]
            have n4 : (Y != fld u 4) = false := by rw [bne, h4]; rfl
            clear h3 h4 HE
            go_region
            all_goals
              go_wp2
              exact bodyPost_ret (v := .tuple #[.agg #[.int .i64 X, .int .i64 Y], .bool false]) (by simp [results, Try.results106, go_sem, q0, q1]) rfl ⟨_, rfl, ⟨X, Y, by rw [HS.out]; rfl, fun q h => by rw [HS.out] at h; cases h⟩, ((HN.out _ HBc.out.drew).setCell (p := ⟨w.heap.size + 1, 0, none⟩) (Nat.le_succ _) _).setCell (p := ⟨w.heap.size + 1, 1, none⟩) (Nat.le_succ _) _⟩
end Go.Proofs.Ytakmjfchhchngaa
