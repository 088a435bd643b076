/- A tick under way: build. -/
import Derived.Test.YtgiieepfhohmhabTGiA
namespace Go.Proofs.Ytgiieepfhohmhab
open Go.RowKit Go.Maps
def Boxes (W : World) (b : Nat) (u q : List Int) : Prop :=
  W.heap[b]? = some (.cells (entC u) 63) ∧ W.heap[b + 1]? = some (.cells (cmdC q) 51) ∧ W.heap[b + 1 + 1 + 1]? = some (.cells (ruleC (fld q 3)) 96)
theorem Boxes.cells {W : World} {b : Nat} {u q : List Int} (h : Boxes W b u q) : W.cell? ⟨b, 0, none⟩ = some (.int .i64 (fld u 0)) ∧ W.cell? ⟨b, 1, none⟩ = some (.int .i64 (fld u 1)) ∧ W.cell? ⟨b, 2, none⟩ = some (.int .i64 (fld u 2)) ∧ W.cell? ⟨b, 3, none⟩ = some (.int .i64 (fld u 3)) ∧ W.cell? ⟨b, 4, none⟩ = some (.int .i64 (fld u 4)) ∧ W.cell? ⟨b, 5, none⟩ = some (.int .i64 (fld u 5)) ∧ W.cell? ⟨b, 6, none⟩ = some (.int .i64 (fld u 6)) ∧ W.cell? ⟨b, 7, none⟩ = some (.int .i64 (fld u 7)) ∧ W.cell? ⟨b, 8, none⟩ = some (.int .i64 (fld u 8)) ∧ W.cell? ⟨b, 9, none⟩ = some (.int .i64 (fld u 9)) ∧ W.cell? ⟨b + 1, 3, none⟩ = some (.int .i64 (fld q 3)) ∧ W.cell? ⟨b + 1, 4, none⟩ = some (.int .i64 (fld q 4)) ∧ W.cell? ⟨b + 1, 5, none⟩ = some (.int .i64 (fld q 5)) ∧ W.cell? ⟨b + 1 + 1 + 1, 0, none⟩ = some (.int .i64 (Pl.eCost (fld q 3))) ∧ W.cell? ⟨b + 1 + 1 + 1, 1, none⟩ = some (.int .i64 (Pl.eHP (fld q 3))) := by
  obtain ⟨h0, h1, h3⟩ := h
  have a : ∀ j, W.cell? ⟨b, j, none⟩ = (entC u)[j]? := fun j => cell_of_row W b j _ _ _ h0
  have c : ∀ j, W.cell? ⟨b + 1, j, none⟩ = (cmdC q)[j]? := fun j => cell_of_row W (b + 1) j _ _ _ h1
  have d : ∀ j, W.cell? ⟨b + 1 + 1 + 1, j, none⟩ = (ruleC (fld q 3))[j]? := fun j => cell_of_row W (b + 1 + 1 + 1) j _ _ _ h3
  exact ⟨a 0, a 1, a 2, a 3, a 4, a 5, a 6, a 7, a 8, a 9, c 3, c 4, c 5, d 0, d 1⟩
theorem Boxes.below {W W' : World} {b : Nat} {u q : List Int} (h : Boxes W b u q) (hb : Below W.heap.size W W') : Boxes W' b u q := by
  obtain ⟨h0, h1, h3⟩ := h
  exact ⟨(hb.block _ (Array.getElem?_eq_some_iff.1 h0).1).trans h0, (hb.block _ (Array.getElem?_eq_some_iff.1 h1).1).trans h1, (hb.block _ (Array.getElem?_eq_some_iff.1 h3).1).trans h3⟩
theorem Boxes.frame {W W' : World} {b p : Nat} {u q : List Int} (h : Boxes W b u q) (hf : Fr W W' p) (ha : ∀ k, b ≤ k → k < b + 4 → Apart W p k) : Boxes W' b u q ∧ ∀ k, b ≤ k → k < b + 4 → Apart W' p k := by
  obtain ⟨h0, h1, h3⟩ := h
  have hl : b + 1 + 1 + 1 < W.heap.size := (Array.getElem?_eq_some_iff.1 h3).1
  refine ⟨⟨((hf.2 _ (by omega) (ha b (by omega) (by omega))).1).trans h0, ((hf.2 _ (by omega) (ha (b + 1) (by omega) (by omega))).1).trans h1, ((hf.2 _ (by omega) (ha (b + 1 + 1 + 1) (by omega) (by omega))).1).trans h3⟩, fun k hk1 hk2 => (hf.2 k (by omega) (ha k hk1 hk2)).2⟩
theorem cost_bd (k : Int) : 0 ≤ Pl.eCost k ∧ Pl.eCost k ≤ 15 := by
  unfold Pl.eCost
  split
  · omega
  · split
    · omega
    · split
      · omega
      · split <;> omega
set_option maxRecDepth 100000 in
set_option maxHeartbeats 8000000 in
theorem build_calls (base p : Nat) (s : St) (was : Int → Int) (u q : List Int) (w : World) (hn : s.es.length ≤ 50) (hfl : s.free.length ≤ 1000) (hbl : s.born.length ≤ 1000) (hn0 : 0 ≤ s.nx) (hg0 : 0 ≤ s.g0 ∧ s.g0 ≤ 1000) (hg1 : 0 ≤ s.g1 ∧ s.g1 ≤ 1000)
    (hu : (0 ≤ fld u 3 ∧ fld u 3 < 12) ∧ 0 ≤ fld u 4 ∧ fld u 4 < 12) (ho : fld u 2 = 1 → fld u 1 = 0 ∨ fld u 1 = 1) (h : GmE base w p s was) :
    Calls Try.prog 69 #[.pointer (some ⟨p, 0, none⟩), entV u, cmdV q] w fun e w' => e = .returned (.tuple #[]) ∧ GmE base w' p (buildS s u q) was ∧ Below base w w' ∧ Fr w w' p := by
  have hlt := h.lt
  obtain ⟨W, hW⟩ : ∃ W, (((w.alloc (.cells (entC u) 63)).alloc (.cells (cmdC q) 51)).alloc (.cells (ruleC (fld q 3)) 96)).alloc (.cells (ruleC (fld q 3)) 96) = W := ⟨_, rfl⟩
  have hbW : Below w.heap.size w W := by
    rw [← hW]
    exact ((((Below.refl _ w).alloc (Nat.le_refl _) _).alloc (by simp [go_sem]) _).alloc (by simp [go_sem]; omega) _).alloc (by simp [go_sem]; omega) _
  have hsW : W.heap.size = w.heap.size + 4 := by rw [← hW]; simp [go_sem]
  have hBx : Boxes W w.heap.size u q := by
    rw [← hW]
    refine ⟨?_, ?_, ?_⟩
    · rw [heap_alloc_old _ _ (by simp [go_sem]), heap_alloc_old _ _ (by simp [go_sem]), heap_alloc_old _ _ (by simp [go_sem])]
      exact heap_alloc_new w _
    · rw [heap_alloc_old _ _ (by simp [go_sem]), heap_alloc_old _ _ (by simp [go_sem])]
      have e : w.heap.size + 1 = (w.alloc (.cells (entC u) 63)).heap.size := by simp [go_sem]
      rw [e]
      exact heap_alloc_new _ _
    · have e : w.heap.size + 1 + 1 + 1 = (((w.alloc (.cells (entC u) 63)).alloc (.cells (cmdC q) 51)).alloc (.cells (ruleC (fld q 3)) 96)).heap.size := by simp [go_sem]
      rw [e]
      exact heap_alloc_new _ _
  obtain ⟨x0, x1, x2, x3, x4, x5, x6, x7, x8, x9, y3, y4, y5, z0, z1⟩ := hBx.cells
  have HG := hid (h.below hbW)
  have HA : Hid (∀ k, w.heap.size ≤ k → k < w.heap.size + 4 → Apart W p k) := fun k hk _ => h.apartNew hbW hk
  have HBW := hid hbW
  have HSW := hid hsW
  have HBX := hid hBx
  have HF0 := hid (Fr.below hbW hlt.2)
  have HBE : Hid (Below base w W) := hbW.mono (by omega)
  clear h hbW hsW hBx
  go_enter Try.func69, Try.ntmps69
  go_wp2_with fail
  refine (elder_calls (fld q 3) _).mono ?_
  rintro e w' ⟨rfl, rfl⟩
  cases h1 : Pl.eHas (fld q 3)
  · have HE : Hid (buildS s u q = s) := by show _ = _; unfold buildS mayBuild; rw [h1]; rfl
    go_wp2
    refine bodyPost_ret (results_none rfl _ _ _) rfl ?_
    exact ⟨rfl, by rw [HE.out]; exact HG.out, HBE.out, HF0.out⟩
  cases h2 : fld q 3 == 4
  case true =>
    have HE : Hid (buildS s u q = s) := by show _ = _; unfold buildS mayBuild; rw [h1, bne, h2]; rfl
    go_wp2
    refine bodyPost_ret (results_none rfl _ _ _) rfl ?_
    exact ⟨rfl, by rw [HE.out]; exact HG.out, HBE.out, HF0.out⟩
  cases h3 : fld u 2 != 1
  case true =>
    have HE : Hid (buildS s u q = s) := by
      show _ = _
      unfold buildS mayBuild
      have e : (fld u 2 == 1) = false := by simpa [bne] using h3
      rw [h1, bne, h2, e]
      rfl
    go_wp2
    refine bodyPost_ret (results_none rfl _ _ _) rfl ?_
    exact ⟨rfl, by rw [HE.out]; exact HG.out, HBE.out, HF0.out⟩
  have hk1 : fld u 2 = 1 := by simpa [bne] using h3
  have HO := hid (ho hk1)
  have HMB : Hid (mayBuild s u q = (roomE s.es u (fld q 4) (fld q 5) && (decide (Pl.eCost (fld q 3) ≤ goldOf s (fld u 1)) && decide (s.es.length < 20)))) := by
    show _ = _
    unfold mayBuild
    have e : (fld u 2 == 1) = true := by simpa using hk1
    rw [h1, bne, h2, e]
    rfl
  clear hk1 ho
  go_wp2_with fail
  refine (hasRoom_calls base p s was u (fld q 4) (fld q 5) W (by omega) hu HG.out).mono ?_
  rintro e w5 ⟨rfl, hb5⟩
  have hG5 := HG.out.below hb5
  have hBx5 := HBX.out.below hb5
  have HF5 := hid (HF0.out.trans (Fr.below hb5 (by rw [HSW.out]; omega)))
  have HB5 : Hid (Below base w w5) := HBE.out.trans (hb5.mono (by rw [HSW.out]; omega))
  have HA5 : Hid (∀ k, w.heap.size ≤ k → k < w.heap.size + 4 → Apart w5 p k) := fun k h1 h2 => ((Fr.below hb5 (by rw [HSW.out]; omega)).2 k (by rw [HSW.out]; omega) (HA.out k h1 h2)).2
  have hs5 : w.heap.size + 4 ≤ w5.heap.size := by have := hb5.size; rw [HSW.out] at this; exact this
  clear hb5 x0 x1 x2 x3 x4 x5 x6 x7 x8 x9 y3 y4 y5 z0 z1 hW HG HBX HF0 HBE HA HBW h1 h2 h3
  obtain ⟨x0, x1, x2, x3, x4, x5, x6, x7, x8, x9, y3, y4, y5, z0, z1⟩ := hBx5.cells
  have HBX5 := hid hBx5
  clear hBx5
  cases hroom : roomE s.es u (fld q 4) (fld q 5)
  · have HE : Hid (buildS s u q = s) := by show _ = _; unfold buildS; rw [HMB.out, hroom]; rfl
    have HG5 := hid hG5
    clear hG5
    go_wp2
    refine bodyPost_ret (results_none rfl _ _ _) rfl ?_
    exact ⟨rfl, by rw [HE.out]; exact HG5.out, HB5.out, HF5.out⟩
  rw [hroom, Bool.true_and] at HMB
  clear hroom
  obtain ⟨G, hG⟩ : ∃ G, G = goldOf s (fld u 1) := ⟨_, rfl⟩
  have hGb : 0 ≤ G ∧ G ≤ 1000 := by rw [hG]; unfold goldOf; split <;> omega
  rw [← hG] at HMB
  have hcost := cost_bd (fld q 3)
  obtain ⟨ev, fv, bv, B, hGm⟩ := hG5
  obtain ⟨ea, c, rfl, hcap, _, _⟩ := hGm.er.open
  obtain ⟨c0, c1, c2, c3, c4, c5, c6, c7⟩ := hGm.eight
  have HG5 : Hid (GmE base w5 p s was) := ⟨_, _, _, _, hGm⟩
  clear hGm c0 c3 c4 c6 c7
  have HGG := hid hG
  have gcs : (fld u 1 = 0 ∧ w5.cell? ⟨p, 1, none⟩ = some (.int .i64 G)) ∨ (fld u 1 = 1 ∧ w5.cell? ⟨p, 2, none⟩ = some (.int .i64 G)) := by
    rcases HO.out with hu1 | hu1
    · exact Or.inl ⟨hu1, by rw [hG, hu1]; exact c1⟩
    · exact Or.inr ⟨hu1, by rw [hG, hu1]; exact c2⟩
  clear c1 c2 hG
  by_cases hlow : G < Pl.eCost (fld q 3)
  · have HE : Hid (buildS s u q = s) := by show _ = _; unfold buildS; rw [HMB.out, decide_eq_false (by omega)]; rfl
    rcases gcs with ⟨hu1, gc⟩ | ⟨hu1, gc⟩
    all_goals
      go_wp2_with fail
      go_quiet (fail)
      go_wp2
      refine bodyPost_ret (results_none rfl _ _ _) rfl ?_
      exact ⟨rfl, by rw [HE.out]; exact HG5.out.below (below_drewN (Below.refl _ _) _), below_drewN HB5.out _, HF5.out.trans (Fr.below (below_drewN (Below.refl _ _) _) (by omega))⟩
  have hlowd : decide (G < Pl.eCost (fld q 3)) = false := decide_eq_false hlow
  by_cases hfull : 20 ≤ s.es.length
  · have HE : Hid (buildS s u q = s) := by show _ = _; unfold buildS; rw [HMB.out, decide_eq_false (show ¬ s.es.length < 20 by omega), Bool.and_false]; rfl
    have hfz : (20 : Int) ≤ (s.es.length : Int) := by omega
    rcases gcs with ⟨hu1, gc⟩ | ⟨hu1, gc⟩
    all_goals
      go_wp2_with fail
      go_quiet (fail)
      go_wp2
      refine bodyPost_ret (results_none rfl _ _ _) rfl ?_
      exact ⟨rfl, by rw [HE.out]; exact HG5.out.below (below_drewN (Below.refl _ _) _), below_drewN HB5.out _, HF5.out.trans (Fr.below (below_drewN (Below.refl _ _) _) (by omega))⟩
  have hfz : ¬ (20 : Int) ≤ (s.es.length : Int) := by omega
  have hfd : decide ((20 : Int) ≤ (s.es.length : Int)) = false := decide_eq_false hfz
  have HMB2 : Hid (mayBuild s u q = true) := by show _ = _; rw [HMB.out, decide_eq_true (by omega), decide_eq_true (by omega)]; rfl
  clear HMB
  cases htk : takeS s with
  | none =>
    have HE : Hid (buildS s u q = s) := by show _ = _; unfold buildS; rw [if_pos HMB2.out, htk]
    have HT : Hid (∀ W, GmE base W p s was → Calls Try.prog 84 #[.pointer (some ⟨p, 0, none⟩)] W fun e w' => e = .returned (.tuple #[.int .i64 0, .bool false]) ∧ w' = W) := fun W hW => takeID_no base p s was W htk hW
    clear htk
    rcases gcs with ⟨hu1, gc⟩ | ⟨hu1, gc⟩
    all_goals
      go_wp2_with fail
      go_quiet (fail)
      go_wp2_with fail
      refine (HT.out _ (HG5.out.below (below_drewN (Below.refl _ _) _))).mono ?_
      rintro e w6 ⟨rfl, rfl⟩
      go_wp2
      refine bodyPost_ret (results_none rfl _ _ _) rfl ?_
      exact ⟨rfl, by rw [HE.out]; exact HG5.out.below (below_drewN (Below.refl _ _) _), below_drewN HB5.out _, HF5.out.trans (Fr.below (below_drewN (Below.refl _ _) _) (by omega))⟩
  | some r =>
    obtain ⟨id, s1⟩ := r
    have HE : Hid (buildS s u q = { payS s1 (fld u 1) (Pl.eCost (fld q 3)) with es := insE s1.es (newU id (fld u 1) (fld q 3) (fld q 4) (fld q 5)), born := s1.born ++ [id] }) := by show _ = _; unfold buildS; rw [if_pos HMB2.out, htk]
    have HT : Hid (∀ W, GmE base W p s was → Calls Try.prog 84 #[.pointer (some ⟨p, 0, none⟩)] W fun e w' => e = .returned (.tuple #[.int .i64 id, .bool true]) ∧ GmE base w' p s1 was ∧ Below base W w' ∧ Fr W w' p) := fun W hW => takeID_some base p s was W id s1 htk hn0 hfl hW
    have hs1 : s1.es = s.es ∧ s1.born = s.born ∧ s1.g0 = s.g0 ∧ s1.g1 = s.g1 := by
      unfold takeS at htk
      split at htk
      · split at htk
        · cases htk
        · cases htk; exact ⟨rfl, rfl, rfl, rfl⟩
      · cases htk; exact ⟨rfl, rfl, rfl, rfl⟩
    have HS := hid hs1
    clear htk hs1
    rcases gcs with ⟨hu1, gc⟩ | ⟨hu1, gc⟩
    all_goals
      go_wp2_with fail
      go_quiet (fail)
      go_wp2_with fail
      refine (HT.out _ (HG5.out.below (below_drewN (Below.refl _ _) _))).mono ?_
      clear HT x0 x1 x2 x3 x4 x5 x6 x7 x8 x9 y3 y4 y5 z0 z1 gc c5
      rintro e w6 ⟨rfl, hG6, hb6, hf6⟩
      obtain ⟨hBx6, hA6⟩ := HBX5.out.frame (W' := w6) (p := p) ((Fr.below (below_drewN (Below.refl _ _) _) (by omega)).trans hf6) HA5.out
      have HF6 := hid (HF5.out.trans ((Fr.below (below_drewN (Below.refl _ _) _) (by omega)).trans hf6))
      have HB6 := hid ((below_drewN HB5.out _).trans hb6)
      have hs6 : w.heap.size + 4 ≤ w6.heap.size := Nat.le_trans hs5 hf6.1
      obtain ⟨x0, x1, x2, x3, x4, x5, x6, x7, x8, x9, y3, y4, y5, z0, z1⟩ := hBx6.cells
      have hpay := gm_pay hG6 (fld u 1) (Pl.eCost (fld q 3)) HO.out
      have hgo : goldOf s1 (fld u 1) = G := by rw [HGG.out]; unfold goldOf; rw [HS.out.2.2.1, HS.out.2.2.2]
      rw [hgo] at hpay
      have HBX6 := hid hBx6
      have HA6 := hid hA6
      clear hBx6 hA6 hf6 hb6 hG6 hgo
      first
        | rw [show 1 + (fld u 1).toNat = 1 by rw [hu1]; rfl] at hpay
        | rw [show 1 + (fld u 1).toNat = 2 by rw [hu1]; rfl] at hpay
      obtain ⟨PS, hPS⟩ : ∃ PS, PS = payS s1 (fld u 1) (Pl.eCost (fld q 3)) := ⟨_, rfl⟩
      rw [← hPS] at hpay HE
      have hes7 : PS.es = s.es ∧ PS.born = s.born := by
        rw [hPS]
        unfold payS
        split
        · exact ⟨HS.out.1, HS.out.2.1⟩
        · exact ⟨HS.out.1, HS.out.2.1⟩
      clear hPS
      rw [HS.out.1, HS.out.2.1, ← hes7.1, ← hes7.2, hu1] at HE
      obtain ⟨hG7, hF7, gc6, gf6⟩ := hpay
      have HG7 := hid hG7.drew
      have HF7 := hid (HF6.out.trans hF7.drew)
      have HB7 : Hid (∀ j, Below base w (w6.setCell ⟨p, j, none⟩ (.int .i64 (G - Pl.eCost (fld q 3)))).drew) := fun j => (HB6.out.setCell (p := ⟨p, j, none⟩) hlt.1 _).drew
      have HES7 := hid hes7
      clear hG7 hF7 hes7
      go_wp2_with fail
      go_region
      all_goals
        go_wp2_with fail
        refine (add_calls base p _ was (newU id _ (fld q 3) (fld q 4) (fld q 5)) _ (by rw [HES7.out.1]; omega) HG7.out).mono ?_
        rintro e w8 ⟨rfl, hG8, hb8, hf8⟩
        have HF8 := hid (HF7.out.trans hf8)
        have HB8 := hid ((HB7.out _).trans hb8)
        obtain ⟨ev8, fv8, bv8, B8, hGm8⟩ := hG8
        obtain ⟨ba, bc, rfl, hcap8, _, _⟩ := hGm8.br.open
        obtain ⟨d0, d1, d2, d3, d4, d5, d6, d7⟩ := hGm8.eight
        have HGm8 := hid hGm8
        have hp8 : p < w8.heap.size := hGm8.lt
        have hbs8 : base ≤ w8.heap.size := by omega
        clear hGm8 hf8 hb8 d0 d1 d2 d3 d4 d5 d6 gc6 gf6 x0 x1 x2 x3 x4 x5 x6 x7 x8 x9 y3 y4 y5 z0 z1 hcap8
        go_wp2_with (at_builtin; refine wp_nums _ rfl _ _ rfl base _ _ rfl (World.ownsRow.alloc HGm8.out.br _) (some ⟨w8.heap.size, 0, none⟩) 1 [id] rfl (nums_one w8 id _) (by simp) (by show PS.born.length + 1 ≤ 100000; rw [HES7.out.2]; omega) (by simp [go_sem]; omega) ?_
                     intro v9 w9 hr9 hg9 hl9
                     have hr9' := hr9
                     obtain ⟨va, vc, rfl, _, _, _⟩ := hr9'.open
                     obtain ⟨kp, ke, kf, kc⟩ := (HGm8.out.below ((Below.refl _ w8).alloc (Nat.le_refl _) _)).grownB hg9
                     have f7 := frozen_of_row w9 p 7 _ _ kp
                     have e7 := cell_of_row w9 p 7 _ _ _ kp
                     clear hr9')
        have hlv : (PS.born ++ [id]).length = PS.born.length + 1 := by rw [List.length_append]; rfl
        rw [hlv] at hr9 hl9
        have HR9 := hid hr9
        have HGR : Hid ((w8.alloc (.cells #[.int .i64 id] 3)).grownBy w9 (Value.slice ba PS.born.length bc).ownBlock) := hg9
        have HL9 : Hid ((Value.slice va (PS.born.length + 1) vc).ownBlock = (Value.slice ba PS.born.length bc).ownBlock ∨ (Value.slice va (PS.born.length + 1) vc).ownBlock = some (w8.heap.size + 1)) := by
          rcases hl9 with h | h
          · exact Or.inl h
          · exact Or.inr (by rw [h]; simp [go_sem])
        have HKP := hid kp
        have HKE := hid ke
        have HKF := hid kf
        have HKC := hid kc
        clear hr9 hl9 hg9 kp ke kf kc hlv
        go_end0
        have hfb : fv8.ownBlock = none ∨ fv8.ownBlock ≠ (Value.slice va (PS.born.length + 1) vc).ownBlock := by
          rcases HL9.out with h | h
          · rw [h]
            exact HGm8.out.fb
          · refine Or.inr fun e => ?_
            have h2 := (World.ownsRow.lt HGm8.out.fr _ (e.trans h)).2
            omega
        have hG9 := gm_pset HKP.out HKC.out HGm8.out.bp HGm8.out.bB 7 (.slice va (PS.born.length + 1) vc) (s' := { PS with es := insE PS.es (newU id _ (fld q 3) (fld q 4) (fld q 5)), born := PS.born ++ [id] }) rfl HKE.out HKF.out HR9.out hfb
        refine ⟨rfl, ?_, ?_, ?_⟩
        · rw [HE.out]
          exact ⟨_, _, _, _, hG9⟩
        · exact ((HB8.out.alloc hbs8 _).grown HGR.out (by simp [go_sem]; omega) (fun k hk => (World.ownsRow.lt HGm8.out.br k hk).1)).setCell (p := ⟨p, 7, none⟩) hlt.1 _
        · refine HF8.out.trans (HGm8.out.frame hG9 ?_ ?_ (fun _ hk => Or.inl hk) (fun _ hk => Or.inl hk) ?_)
          · have h1 := HGR.out.size
            simp [go_sem] at h1 ⊢
            omega
          · intro k hk hkp _ _ hkb _
            rw [heap_setCell_other w9 ⟨p, 7, none⟩ k _ (fun e => hkp e), HGR.out.block k (by simp [go_sem]; omega) (fun e => hkb e.symm), heap_alloc_old _ _ hk]
          · intro k hk
            rcases HL9.out with h | h
            · exact Or.inl (h.symm.trans hk)
            · have h2 := h.symm.trans hk
              simp only [Option.some.injEq] at h2
              exact Or.inr (by omega)
end Go.Proofs.Ytgiieepfhohmhab
namespace Go.Proofs.Ytgiieepfhohmhab
open Go.RowKit Go.Maps
def goS (s : St) (i : Nat) (x y : Int) : St :=
  if (Pl.onB x y && decide (0 < Pl.eSpeed (fld (rec s.es i) 2))) = true then { s with es := s.es.set i (updR 10 (updR 10 (turnR (rec s.es i) 1) 7 x) 8 y) } else s
def stopS (s : St) (i : Nat) : St := { s with es := s.es.set i (turnR (rec s.es i) 0) }
def doS (s : St) (q : List Int) (i : Nat) : St :=
  if fld q 1 = 1 then goS s i (fld q 4) (fld q 5)
  else if fld q 1 = 2 then aimS s i 2 (fld q 6)
  else if fld q 1 = 3 then aimS s i 3 (fld q 6)
  else if fld q 1 = 4 then buildS s (rec s.es i) q
  else if fld q 1 = 5 then stopS s i
  else s
def cmdS (s : St) (q : List Int) : St :=
  if idxZ (isId (fld q 2)) s.es < 0 then s
  else if fld (rec s.es (idxZ (isId (fld q 2)) s.es).toNat) 1 = fld q 0 then doS s q (idxZ (isId (fld q 2)) s.es).toNat
  else s
def OkU (u : List Int) : Prop := ((0 ≤ fld u 3 ∧ fld u 3 < 12) ∧ 0 ≤ fld u 4 ∧ fld u 4 < 12) ∧ (fld u 2 = 1 → fld u 1 = 0 ∨ fld u 1 = 1)
set_option maxRecDepth 100000 in
set_option maxHeartbeats 8000000 in
theorem command_calls (base p : Nat) (s : St) (was : Int → Int) (q : List Int) (w : World) (hn : s.es.length ≤ 50) (hfl : s.free.length ≤ 1000) (hbl : s.born.length ≤ 1000) (hn0 : 0 ≤ s.nx) (hg0 : 0 ≤ s.g0 ∧ s.g0 ≤ 1000) (hg1 : 0 ≤ s.g1 ∧ s.g1 ≤ 1000)
    (hok : ∀ i, i < s.es.length → OkU (rec s.es i)) (h : GmE base w p s was) :
    Calls Try.prog 56 #[.pointer (some ⟨p, 0, none⟩), cmdV q] w fun e w' => e = .returned (.tuple #[]) ∧ GmE base w' p (cmdS s q) was ∧ Below base w w' := by
  have hlt := h.lt
  obtain ⟨ev, fv, bv, B, hGm⟩ := h
  obtain ⟨ea, c, rfl, hcap, hrecs, hg0'⟩ := hGm.er.open
  obtain ⟨W, hW⟩ : ∃ W, w.alloc (.cells (cmdC q) 51) = W := ⟨_, rfl⟩
  have hbW : Below w.heap.size w W := by rw [← hW]; exact (Below.refl _ w).alloc (Nat.le_refl _) _
  have hsW : W.heap.size = w.heap.size + 1 := by rw [← hW]; simp [go_sem]
  have hX : W.heap[w.heap.size]? = some (.cells (cmdC q) 51) := by rw [← hW]; exact heap_alloc_new w _
  have hxc : ∀ j, W.cell? ⟨w.heap.size, j, none⟩ = (cmdC q)[j]? := fun j => cell_of_row W w.heap.size j _ _ _ hX
  have y2 : W.cell? ⟨w.heap.size, 2, none⟩ = some (.int .i64 (fld q 2)) := hxc 2
  obtain ⟨c0, c1, c2, c3, c4, c5, c6, c7⟩ := (hGm.below hbW).eight
  have HI : Hid (∀ W', Recs W' ea 10 s.es → Calls Try.prog 37 #[.slice ea s.es.length c, .int .i64 (fld q 2)] W' fun e w' => e = .returned (.int .i64 (idxZ (isId (fld q 2)) s.es)) ∧ Below W'.heap.size W' w') := fun W' hW' => index_calls (fld q 2) s.es ea c W' (by omega) hW'
  have HR := hid (hrecs.below hbW)
  have HGm := hid (hGm.below hbW)
  have HBW := hid hbW
  have HSW := hid hsW
  have HX := hid hX
  have HOK := hid hok
  clear hGm hrecs hg0' hbW hsW hX hxc hok c0 c1 c2 c3 c4 c6 c7
  go_enter Try.func56, Try.ntmps56
  go_wp2_with fail
  go_cut [4] (fun r wx => r = .int .i64 (idxZ (isId (fld q 2)) s.es) ∧ Hid (Below W.heap.size W wx))
  case first =>
    go_region_with (go_at_call 37; refine (HI.out _ (HR.out.drewN _)).mono ?_; rintro e w2 ⟨rfl, hb2⟩)
    all_goals
      have HB2 := hid (below_of_drewN hb2)
      clear hb2 y2 c5
      go_wp2
      go_meet
      exact ⟨rfl, HB2⟩
  case rest =>
    obtain ⟨rfl, HB⟩ := hcut
    clear y2 c5 HI hW HR
    have hGc := HGm.out.below HB.out
    have hXc : wc.heap[w.heap.size]? = some (.cells (cmdC q) 51) := (HB.out.block w.heap.size (by rw [HSW.out]; omega)).trans HX.out
    have hxc : ∀ j, wc.cell? ⟨w.heap.size, j, none⟩ = (cmdC q)[j]? := fun j => cell_of_row wc w.heap.size j _ _ _ hXc
    have y0 : wc.cell? ⟨w.heap.size, 0, none⟩ = some (.int .i64 (fld q 0)) := hxc 0
    have y1 : wc.cell? ⟨w.heap.size, 1, none⟩ = some (.int .i64 (fld q 1)) := hxc 1
    have y2 : wc.cell? ⟨w.heap.size, 2, none⟩ = some (.int .i64 (fld q 2)) := hxc 2
    have y3 : wc.cell? ⟨w.heap.size, 3, none⟩ = some (.int .i64 (fld q 3)) := hxc 3
    have y4 : wc.cell? ⟨w.heap.size, 4, none⟩ = some (.int .i64 (fld q 4)) := hxc 4
    have y5 : wc.cell? ⟨w.heap.size, 5, none⟩ = some (.int .i64 (fld q 5)) := hxc 5
    have y6 : wc.cell? ⟨w.heap.size, 6, none⟩ = some (.int .i64 (fld q 6)) := hxc 6
    have HBE : Hid (Below base w wc) := (HBW.out.trans (HB.out.mono (by rw [HSW.out]; omega))).mono (by omega)
    have hsc : w.heap.size + 1 ≤ wc.heap.size := by have := HB.out.size; rw [HSW.out] at this; exact this
    obtain ⟨c0, c1, c2, c3, c4, c5, c6, c7⟩ := hGc.eight
    have HXc := hid hXc
    have HGc := hid hGc
    clear hGc hXc hxc HGm HBW HX c0 c1 c2 c3 c4 c6 c7
    by_cases hz : idxZ (isId (fld q 2)) s.es < 0
    · have HE : Hid (cmdS s q = s) := by show _ = _; unfold cmdS; rw [if_pos hz]
      go_wp2_with fail
      go_quiet (fail)
      go_wp2
      refine bodyPost_ret (results_none rfl _ _ _) rfl ?_
      exact ⟨rfl, by rw [HE.out]; exact ⟨_, _, _, _, HGc.out.below (below_drewN (Below.refl _ _) _)⟩, below_drewN HBE.out _⟩
    obtain ⟨k, hk⟩ : ∃ k : Nat, idxZ (isId (fld q 2)) s.es = k := ⟨(idxZ (isId (fld q 2)) s.es).toNat, by omega⟩
    have hkl : k < s.es.length := by have := (idxZ_bd (isId (fld q 2)) s.es).2; omega
    have HC : Hid (cmdS s q = if fld (rec s.es k) 1 = fld q 0 then doS s q k else s) := by
      show _ = _
      unfold cmdS
      rw [if_neg hz, hk]
      rfl
    rw [hk]
    clear hz hk
    obtain ⟨ea', c', hev, _, _, hgx⟩ := HGc.out.er.open
    obtain ⟨g, hg, hbg, hgl⟩ := hgx (by omega)
    cases hev
    subst hg
    obtain ⟨hc, hf⟩ := HGc.out.er.ten hkl
    have l0 : wc.cell? ⟨g, k * 10, none⟩ = some (.int .i64 (fld (rec s.es k) 0)) := hc 0 (by omega)
    have l1 := hc 1 (by omega)
    have l2 := hc 2 (by omega)
    have l3 := hc 3 (by omega)
    have l4 := hc 4 (by omega)
    have l5 := hc 5 (by omega)
    have l6 := hc 6 (by omega)
    have l7 := hc 7 (by omega)
    have l8 := hc 8 (by omega)
    have l9 := hc 9 (by omega)
    have f6 := hf (k * 10 + 6)
    have f7 := hf (k * 10 + 7)
    have f8 := hf (k * 10 + 8)
    have f9 := hf (k * 10 + 9)
    have hkz : (k : Int) < (s.es.length : Int) := by omega
    have hkd : decide ((k : Int) < 0) = false := decide_eq_false (by omega)
    have HUK := hid (HOK.out k hkl)
    clear hc hf hgx HOK
    by_cases ho : fld (rec s.es k) 1 = fld q 0
    case neg =>
      have HE : Hid (cmdS s q = s) := by show _ = _; rw [HC.out, if_neg ho]
      have hob : (fld (rec s.es k) 1 != fld q 0) = true := by simpa using ho
      clear ho HC
      go_wp2_with fail
      go_quiet (fail)
      go_wp2
      refine bodyPost_ret (results_none rfl _ _ _) rfl ?_
      exact ⟨rfl, by rw [HE.out]; exact ⟨_, _, _, _, HGc.out.below (below_drewN (Below.refl _ _) _)⟩, below_drewN HBE.out _⟩
    have hob : (fld (rec s.es k) 1 != fld q 0) = false := by simpa using ho
    rw [if_pos ho] at HC
    clear ho
    obtain ⟨wq, rfl⟩ : ∃ x, x = wc := ⟨_, rfl⟩
    go_wp2_with fail
    go_cut [29] (fun r wx => r = .bool false ∧ ∃ n, wx = wq.drewN n)
    case first =>
      go_quiet (fail)
      go_wp2
      go_meet
      exact ⟨rfl, _, rfl⟩
    case rest =>
      obtain ⟨rfl, n1, rfl⟩ := hcut
      have HG2 := hid (HGc.out.below (below_drewN (Below.refl _ _) n1))
      have HB2 := hid (below_drewN HBE.out n1)
      have HX2 : Hid ((wq.drewN n1).heap[w.heap.size]? = some (.cells (cmdC q) 51)) := HXc.out
      have HR2 : Hid (Recs wq (some ⟨g, 0, none⟩) 10 s.es) := (HGc.out.er.open).elim (fun ea h => h.elim fun c h => by
        obtain ⟨hev, _, hr, _⟩ := h
        cases hev
        exact hr)
      clear HGc HBE HXc hob hkd y0 y2 y3
      by_cases h1 : fld q 1 = 1
      · have HD : Hid (doS s q k = goS s k (fld q 4) (fld q 5)) := by show _ = _; unfold doS; rw [if_pos h1]
        have b1 : (fld q 1 == 1) = true := by simpa using h1
        clear h1
        go_wp2_with fail
        refine (on_calls _ _ _).mono ?_
        rintro e w' ⟨rfl, rfl⟩
        cases hon : Pl.onB (fld q 4) (fld q 5)
        · have HE : Hid (cmdS s q = s) := by show _ = _; rw [HC.out, HD.out]; unfold goS; rw [hon]; rfl
          go_wp2
          go_end0
          exact ⟨rfl, by rw [HE.out]; exact ⟨_, _, _, _, HG2.out⟩, HB2.out⟩
        go_wp2_with fail
        refine (rule_elder_calls (rec s.es k) _).mono ?_
        rintro e w2 ⟨rfl, hb2⟩
        have hG3 := HG2.out.below hb2
        have hX3 := (hb2.block w.heap.size (show w.heap.size < wq.heap.size by omega)).trans HX2.out
        have HB3 := hid (HB2.out.trans (hb2.mono (show base ≤ wq.heap.size by omega)))
        have fr := field_rule2
        clear hb2 HG2 HB2 HX2 l0 l1 l2 l3 l4 l5 l6 l7 l8 l9 f6 f7 f8 f9 y1 y4 y5 y6
        by_cases hsp : 0 < Pl.eSpeed (fld (rec s.es k) 2)
        case neg =>
          have HE : Hid (cmdS s q = s) := by show _ = _; rw [HC.out, HD.out]; unfold goS; rw [hon, decide_eq_false hsp]; rfl
          have HG3 := hid hG3
          clear hG3 hX3
          go_wp2
          go_end0
          exact ⟨rfl, by rw [HE.out]; exact ⟨_, _, _, _, HG3.out⟩, HB3.out⟩
        have HE : Hid (cmdS s q = { s with es := s.es.set k (updR 10 (updR 10 (turnR (rec s.es k) 1) 7 (fld q 4)) 8 (fld q 5)) }) := by show _ = _; rw [HC.out, HD.out]; unfold goS; rw [hon, decide_eq_true hsp]; rfl
        obtain ⟨hc, hf⟩ := hG3.er.ten hkl
        have l6 := hc 6 (by omega)
        have l7 := hc 7 (by omega)
        have l8 := hc 8 (by omega)
        have l9 := hc 9 (by omega)
        have f6 := hf (k * 10 + 6)
        have f7 := hf (k * 10 + 7)
        have f8 := hf (k * 10 + 8)
        have f9 := hf (k * 10 + 9)
        have hG4 := gm_turn hG3 hkl 1
        have hgX : g ≠ w.heap.size := fun e => row_ne hG3.er hX3 (by decide) (by rw [e]; rfl)
        have hX4 : (turnW w2 g (k * 10) 1).heap[w.heap.size]? = some (.cells (cmdC q) 51) := by
          unfold turnW
          rw [heap_setCell_other _ _ _ _ (fun e => hgX e.symm), heap_setCell_other _ _ _ _ (fun e => hgX e.symm), heap_setCell_other _ _ _ _ (fun e => hgX e.symm), heap_setCell_other _ _ _ _ (fun e => hgX e.symm)]
          exact hX3
        have HG4 := hid hG4
        have HX4 := hid hX4
        have HB4 := hid (below_turnW (m := k * 10) (does := 1) HB3.out hbg)
        clear hG3 hX3 hc hf hG4 hX4 HB3
        go_wp2_with fail
        refine (turn_calls g (k * 10) 1 _ _ _ _ _ l6 l7 l8 l9 f6 f7 f8 f9).mono ?_
        rintro e w4 ⟨rfl, rfl⟩
        clear l6 l7 l8 l9 f6 f7 f8 f9
        generalize turnW w2 g (k * 10) 1 = w4 at HG4 HX4 HB4
        have hk4 : k < (s.es.set k (turnR (rec s.es k) 1)).length := by simpa using hkl
        obtain ⟨hc, hf⟩ := HG4.out.er.ten hk4
        have l7 := hc 7 (by omega)
        have l8 := hc 8 (by omega)
        have f7 := hf (k * 10 + 7)
        have f8 := hf (k * 10 + 8)
        have hxc : ∀ j, w4.cell? ⟨w.heap.size, j, none⟩ = (cmdC q)[j]? := fun j => cell_of_row w4 w.heap.size j _ _ _ HX4.out
        have y4 : w4.cell? ⟨w.heap.size, 4, none⟩ = some (.int .i64 (fld q 4)) := hxc 4
        have y5 : w4.cell? ⟨w.heap.size, 5, none⟩ = some (.int .i64 (fld q 5)) := hxc 5
        have hG5 := gm_rput HG4.out hk4 (j := 7) (by omega) (fld q 4)
        have hG6 := gm_rput hG5 (i := k) (by simpa using hkl) (j := 8) (by omega) (fld q 5)
        simp only [set_set] at hG6
        rw [rec_set_same hkl, rec_set_same hkl] at hG6
        have HG6 : Hid (GmE base ((w4.setCell ⟨g, k * 10 + 7, none⟩ (.int .i64 (fld q 4))).setCell ⟨g, k * 10 + 8, none⟩ (.int .i64 (fld q 5))) p { s with es := s.es.set k (updR 10 (updR 10 (turnR (rec s.es k) 1) 7 (fld q 4)) 8 (fld q 5)) } was) := ⟨_, _, _, _, hG6⟩
        have HB6 : Hid (Below base w ((w4.setCell ⟨g, k * 10 + 7, none⟩ (.int .i64 (fld q 4))).setCell ⟨g, k * 10 + 8, none⟩ (.int .i64 (fld q 5)))) := (HB4.out.setCell (p := ⟨g, k * 10 + 7, none⟩) hbg _).setCell (p := ⟨g, k * 10 + 8, none⟩) hbg _
        clear hc hf hxc hG5 hG6 HG4 HX4 HB4
        go_wp2_with fail
        go_region
        all_goals
          go_wp2
          go_end0
          exact ⟨rfl, by rw [HE.out]; exact HG6.out.drew, HB6.out.drew⟩
      have b1 : (fld q 1 == 1) = false := by simpa using h1
      by_cases h2 : fld q 1 = 2
      · have HE : Hid (cmdS s q = aimS s k 2 (fld q 6)) := by show _ = _; rw [HC.out]; unfold doS; rw [if_neg h1, if_pos h2]
        have b2 : (fld q 1 == 2) = true := by simpa using h2
        clear h2 h1 HC
        go_wp2_with fail
        refine (aim_calls base p g _ c fv bv B s was k 2 (fld q 6) _ hkl (by omega) HG2.out).mono ?_
        rintro e w2 ⟨rfl, hG3, hb3⟩
        have HG3 := hid hG3
        have HB3 := hid (HB2.out.trans hb3)
        clear hG3 hb3 l0 l1 l2 l3 l4 l5 l6 l7 l8 l9 f6 f7 f8 f9 y1 y4 y5 y6
        go_wp2
        go_end0
        exact ⟨rfl, by rw [HE.out]; exact ⟨_, _, _, _, HG3.out⟩, HB3.out⟩
      have b2 : (fld q 1 == 2) = false := by simpa using h2
      by_cases h3 : fld q 1 = 3
      · have HE : Hid (cmdS s q = aimS s k 3 (fld q 6)) := by show _ = _; rw [HC.out]; unfold doS; rw [if_neg h1, if_neg h2, if_pos h3]
        have b3 : (fld q 1 == 3) = true := by simpa using h3
        clear h3 h1 h2 HC
        go_wp2_with fail
        refine (aim_calls base p g _ c fv bv B s was k 3 (fld q 6) _ hkl (by omega) HG2.out).mono ?_
        rintro e w2 ⟨rfl, hG3, hb3⟩
        have HG3 := hid hG3
        have HB3 := hid (HB2.out.trans hb3)
        clear hG3 hb3 l0 l1 l2 l3 l4 l5 l6 l7 l8 l9 f6 f7 f8 f9 y1 y4 y5 y6
        go_wp2
        go_end0
        exact ⟨rfl, by rw [HE.out]; exact ⟨_, _, _, _, HG3.out⟩, HB3.out⟩
      have b3 : (fld q 1 == 3) = false := by simpa using h3
      by_cases h4 : fld q 1 = 4
      · have HE : Hid (cmdS s q = buildS s (rec s.es k) q) := by show _ = _; rw [HC.out]; unfold doS; rw [if_neg h1, if_neg h2, if_neg h3, if_pos h4]
        have b4 : (fld q 1 == 4) = true := by simpa using h4
        have HX3 := HX2
        have hxc : ∀ j, wq.cell? ⟨w.heap.size, j, none⟩ = (cmdC q)[j]? := fun j => cell_of_row wq w.heap.size j _ _ _ HX2.out
        have y0 : wq.cell? ⟨w.heap.size, 0, none⟩ = some (.int .i64 (fld q 0)) := hxc 0
        have y2 : wq.cell? ⟨w.heap.size, 2, none⟩ = some (.int .i64 (fld q 2)) := hxc 2
        have y3 : wq.cell? ⟨w.heap.size, 3, none⟩ = some (.int .i64 (fld q 3)) := hxc 3
        have HBC : Hid (∀ W', GmE base W' p s was → Calls Try.prog 69 #[.pointer (some ⟨p, 0, none⟩), entV (rec s.es k), cmdV q] W' fun e w' => e = .returned (.tuple #[]) ∧ GmE base w' p (buildS s (rec s.es k) q) was ∧ Below base W' w' ∧ Fr W' w' p) := fun W' hW' => build_calls base p s was (rec s.es k) q W' hn hfl hbl hn0 hg0 hg1 HUK.out.1 HUK.out.2 hW'
        have HG3 : Hid (GmE base (wq.drewN n1) p s was) := ⟨_, _, _, _, HG2.out⟩
        clear h4 h1 h2 h3 HC hxc HG2
        go_wp2_with fail
        go_region_with (go_at_call 69; refine (HBC.out _ (HG3.out.drew)).mono ?_; rintro e w2 ⟨rfl, hG4, hb4, hf4⟩)
        all_goals
          have HG4 := hid hG4
          have HB4 := hid (HB2.out.drew.trans hb4)
          clear hG4 hb4 hf4 l0 l1 l2 l3 l4 l5 l6 l7 l8 l9 f6 f7 f8 f9 y0 y1 y2 y3 y4 y5 y6
          go_wp2
          go_end0
          exact ⟨rfl, by rw [HE.out]; exact HG4.out, HB4.out⟩
      have b4 : (fld q 1 == 4) = false := by simpa using h4
      by_cases h5 : fld q 1 = 5
      · have HE : Hid (cmdS s q = stopS s k) := by show _ = _; rw [HC.out]; unfold doS; rw [if_neg h1, if_neg h2, if_neg h3, if_neg h4, if_pos h5]
        have b5 : (fld q 1 == 5) = true := by simpa using h5
        have HG3 := hid (gm_turn HG2.out hkl 0)
        have HB3 := hid (below_turnW (m := k * 10) (does := 0) HB2.out hbg)
        clear h5 h1 h2 h3 h4 HC
        go_wp2_with fail
        refine (turn_calls g (k * 10) 0 (wq.drewN n1) _ _ _ _ l6 l7 l8 l9 f6 f7 f8 f9).mono ?_
        rintro e w2 ⟨rfl, rfl⟩
        clear l0 l1 l2 l3 l4 l5 l6 l7 l8 l9 f6 f7 f8 f9 y1 y4 y5 y6
        generalize turnW (wq.drewN n1) g (k * 10) 0 = w4 at HG3 HB3
        go_wp2
        go_end0
        exact ⟨rfl, by rw [HE.out]; exact ⟨_, _, _, _, HG3.out⟩, HB3.out⟩
      have b5 : (fld q 1 == 5) = false := by simpa using h5
      have HE : Hid (cmdS s q = s) := by show _ = _; rw [HC.out]; unfold doS; rw [if_neg h1, if_neg h2, if_neg h3, if_neg h4, if_neg h5]
      clear h5 h1 h2 h3 h4 HC
      go_wp2
      go_end0
      exact ⟨rfl, by rw [HE.out]; exact ⟨_, _, _, _, HG2.out⟩, HB2.out⟩
end Go.Proofs.Ytgiieepfhohmhab
