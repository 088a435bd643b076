/- A tick under way: build. -/
import Derived.Test.YtakmjfchhchngaaGi
namespace Go.Proofs.Ytakmjfchhchngaa
open Go.RowKit Go.Maps

def Boxes (W : World) (b : Nat) (u q : List Int) : Prop :=
  W.heap[b]? = some (.cells (entC u) 86) ∧ W.heap[b + 1]? = some (.cells (cmdC q) 69) ∧ W.heap[b + 1 + 1 + 1]? = some (.cells (ruleC (fld q 3)) 41)
theorem Boxes.cells {W : World} {b : Nat} {u q : List Int} (h : Boxes W b u q) : W.cell? ⟨b, 0, none⟩ = some (.int .i64 (fld u 0)) ∧ W.cell? ⟨b, 1, none⟩ = some (.int .i64 (fld u 1)) ∧ W.cell? ⟨b, 2, none⟩ = some (.int .i64 (fld u 2)) ∧ W.cell? ⟨b, 3, none⟩ = some (.int .i64 (fld u 3)) ∧ W.cell? ⟨b, 4, none⟩ = some (.int .i64 (fld u 4)) ∧ W.cell? ⟨b, 5, none⟩ = some (.int .i64 (fld u 5)) ∧ W.cell? ⟨b, 6, none⟩ = some (.int .i64 (fld u 6)) ∧ W.cell? ⟨b, 7, none⟩ = some (.int .i64 (fld u 7)) ∧ W.cell? ⟨b, 8, none⟩ = some (.int .i64 (fld u 8)) ∧ W.cell? ⟨b, 9, none⟩ = some (.int .i64 (fld u 9)) ∧ W.cell? ⟨b + 1, 3, none⟩ = some (.int .i64 (fld q 3)) ∧ W.cell? ⟨b + 1, 4, none⟩ = some (.int .i64 (fld q 4)) ∧ W.cell? ⟨b + 1, 5, none⟩ = some (.int .i64 (fld q 5)) ∧ W.cell? ⟨b + 1 + 1 + 1, 0, none⟩ = some (.int .i64 (Pl.eCost (fld q 3))) ∧ W.cell? ⟨b + 1 + 1 + 1, 1, none⟩ = some (.int .i64 (Pl.eHP (fld q 3))) := by
  obtain ⟨h0, h1, h3⟩ := h
  have a : ∀ j, W.cell? ⟨b, j, none⟩ = (entC u)[j]? := fun j => cell_of_row W b j _ _ _ h0
  have c : ∀ j, W.cell? ⟨b + 1, j, none⟩ = (cmdC q)[j]? := fun j => cell_of_row W (b + 1) j _ _ _ h1
  have d : ∀ j, W.cell? ⟨b + 1 + 1 + 1, j, none⟩ = (ruleC (fld q 3))[j]? := fun j => cell_of_row W (b + 1 + 1 + 1) j _ _ _ h3
  exact ⟨a 0, a 1, a 2, a 3, a 4, a 5, a 6, a 7, a 8, a 9, c 3, c 4, c 5, d 0, d 1⟩
theorem Boxes.below {W W' : World} {b : Nat} {u q : List Int} (h : Boxes W b u q) (hb : Below W.heap.size W W') : Boxes W' b u q := by
  obtain ⟨h0, h1, h3⟩ := h
  exact ⟨(hb.block _ (Array.getElem?_eq_some_iff.1 h0).1).trans h0, (hb.block _ (Array.getElem?_eq_some_iff.1 h1).1).trans h1, (hb.block _ (Array.getElem?_eq_some_iff.1 h3).1).trans h3⟩
theorem Boxes.frame {W W' : World} {b p : Nat} {u q : List Int} (h : Boxes W b u q) (hf : Fr W W' p) (ha : ∀ k, b ≤ k → k < b + 4 → Apart W p k) : Boxes W' b u q ∧ ∀ k, b ≤ k → k < b + 4 → Apart W' p k := by
  obtain ⟨h0, h1, h3⟩ := h
  have hl : b + 1 + 1 + 1 < W.heap.size := (Array.getElem?_eq_some_iff.1 h3).1
  refine ⟨⟨((hf.2 _ (by omega) (ha b (by omega) (by omega))).1).trans h0, ((hf.2 _ (by omega) (ha (b + 1) (by omega) (by omega))).1).trans h1, ((hf.2 _ (by omega) (ha (b + 1 + 1 + 1) (by omega) (by omega))).1).trans h3⟩, fun k hk1 hk2 => (hf.2 k (by omega) (ha k hk1 hk2)).2⟩

theorem cost_bd (k : Int) : 0 ≤ Pl.eCost k ∧ Pl.eCost k ≤ 15 := by
  unfold Pl.eCost
  split
  · omega
  · split
    · omega
    · split
      · omega
      · split <;> omega

set_option maxRecDepth 100000 in
set_option maxHeartbeats 8000000 in
theorem build_calls (base p : Nat) (s : St) (was : Int → Int) (u q : List Int) (w : World) (hn : s.es.length ≤ 50) (hfl : s.free.length ≤ 1000) (hbl : s.born.length ≤ 1000) (hn0 : 0 ≤ s.nx) (hg0 : 0 ≤ s.g0 ∧ s.g0 ≤ 1000) (hg1 : 0 ≤ s.g1 ∧ s.g1 ≤ 1000)
    (hu : (0 ≤ fld u 3 ∧ fld u 3 < 12) ∧ 0 ≤ fld u 4 ∧ fld u 4 < 12) (ho : fld u 2 = 1 → fld u 1 = 0 ∨ fld u 1 = 1) (h : GmE base w p s was) :
    Calls Try.prog 105 #[.pointer (some ⟨p, 0, none⟩), entV u, cmdV q] w fun e w' => e = .returned (.tuple #[]) ∧ GmE base w' p (buildS s u q) was ∧ Below base w w' ∧ Fr w w' p := by
  have hlt := h.lt
  obtain ⟨W, hW⟩ : ∃ W, (((w.alloc (.cells (entC u) 86)).alloc (.cells (cmdC q) 69)).alloc (.cells (ruleC (fld q 3)) 41)).alloc (.cells (ruleC (fld q 3)) 41) = W := ⟨_, rfl⟩
  have hbW : Below w.heap.size w W := by
    rw [← hW]
    exact ((((Below.refl _ w).alloc (Nat.le_refl _) _).alloc (by simp [go_sem]) _).alloc (by simp [go_sem]; omega) _).alloc (by simp [go_sem]; omega) _
  have hsW : W.heap.size = w.heap.size + 4 := by rw [← hW]; simp [go_sem]
  have hBx : Boxes W w.heap.size u q := by
    rw [← hW]
    refine ⟨?_, ?_, ?_⟩
    · rw [heap_alloc_old _ _ (by simp [go_sem]), heap_alloc_old _ _ (by simp [go_sem]), heap_alloc_old _ _ (by simp [go_sem])]
      exact heap_alloc_new w _
    · rw [heap_alloc_old _ _ (by simp [go_sem]), heap_alloc_old _ _ (by simp [go_sem])]
      have e : w.heap.size + 1 = (w.alloc (.cells (entC u) 86)).heap.size := by simp [go_sem]
      rw [e]
      exact heap_alloc_new _ _
    · have e : w.heap.size + 1 + 1 + 1 = (((w.alloc (.cells (entC u) 86)).alloc (.cells (cmdC q) 69)).alloc (.cells (ruleC (fld q 3)) 41)).heap.size := by simp [go_sem]
      rw [e]
      exact heap_alloc_new _ _
  obtain ⟨x0, x1, x2, x3, x4, x5, x6, x7, x8, x9, y3, y4, y5, z0, z1⟩ := hBx.cells
  have HG := hid (h.below hbW)
  have HA : Hid (∀ k, w.heap.size ≤ k → k < w.heap.size + 4 → Apart W p k) := fun k hk _ => h.apartNew hbW hk
  have HBW := hid hbW
  have HSW := hid hsW
  have HBX := hid hBx
  have HF0 := hid (Fr.below hbW hlt.2)
  have HBE : Hid (Below base w W) := hbW.mono (by omega)
  clear h hbW hsW hBx
  go_enter Try.func105, Try.ntmps105
  go_wp2_with fail
  refine (elder_calls (fld q 3) _).mono ?_
  rintro e w' ⟨rfl, rfl⟩
  cases h1 : Pl.eHas (fld q 3)
  · have HE : Hid (buildS s u q = s) := by show _ = _; unfold buildS mayBuild; rw [h1]; rfl
    go_wp2
    refine bodyPost_ret (results_none rfl _ _ _) rfl ?_
    exact ⟨rfl, by rw [HE.out]; exact HG.out, HBE.out, HF0.out⟩
  cases h2 : fld q 3 == 4
  case true =>
    have HE : Hid (buildS s u q = s) := by show _ = _; unfold buildS mayBuild; rw [h1, bne, h2]; rfl
    go_wp2
    refine bodyPost_ret (results_none rfl _ _ _) rfl ?_
    exact ⟨rfl, by rw [HE.out]; exact HG.out, HBE.out, HF0.out⟩
  cases h3 : fld u 2 != 1
  case true =>
    have HE : Hid (buildS s u q = s) := by
      show _ = _
      unfold buildS mayBuild
      have e : (fld u 2 == 1) = false := by simpa [bne] using h3
      rw [h1, bne, h2, e]
      rfl
    go_wp2
    refine bodyPost_ret (results_none rfl _ _ _) rfl ?_
    exact ⟨rfl, by rw [HE.out]; exact HG.out, HBE.out, HF0.out⟩
  have hk1 : fld u 2 = 1 := by simpa [bne] using h3
  have HO := hid (ho hk1)
  have HMB : Hid (mayBuild s u q = (roomE s.es u (fld q 4) (fld q 5) && (decide (Pl.eCost (fld q 3) ≤ goldOf s (fld u 1)) && decide (s.es.length < 20)))) := by
    show _ = _
    unfold mayBuild
    have e : (fld u 2 == 1) = true := by simpa using hk1
    rw [h1, bne, h2, e]
    rfl
  clear hk1 ho
  go_wp2_with fail
  refine (hasRoom_calls base p s was u (fld q 4) (fld q 5) W (by omega) hu HG.out).mono ?_
  rintro e w5 ⟨rfl, hb5⟩
  have hG5 := HG.out.below hb5
  have hBx5 := HBX.out.below hb5
  have HF5 := hid (HF0.out.trans (Fr.below hb5 (by rw [HSW.out]; omega)))
  have HB5 : Hid (Below base w w5) := HBE.out.trans (hb5.mono (by rw [HSW.out]; omega))
  have HA5 : Hid (∀ k, w.heap.size ≤ k → k < w.heap.size + 4 → Apart w5 p k) := fun k h1 h2 => ((Fr.below hb5 (by rw [HSW.out]; omega)).2 k (by rw [HSW.out]; omega) (HA.out k h1 h2)).2
  have hs5 : w.heap.size + 4 ≤ w5.heap.size := by have := hb5.size; rw [HSW.out] at this; exact this
  clear hb5 x0 x1 x2 x3 x4 x5 x6 x7 x8 x9 y3 y4 y5 z0 z1 hW HG HBX HF0 HBE HA HBW h1 h2 h3
  obtain ⟨x0, x1, x2, x3, x4, x5, x6, x7, x8, x9, y3, y4, y5, z0, z1⟩ := hBx5.cells
  have HBX5 := hid hBx5
  clear hBx5
  cases hroom : roomE s.es u (fld q 4) (fld q 5)
  · have HE : Hid (buildS s u q = s) := by show _ = _; unfold buildS; rw [HMB.out, hroom]; rfl
    have HG5 := hid hG5
    clear hG5
    go_wp2
    refine bodyPost_ret (results_none rfl _ _ _) rfl ?_
    exact ⟨rfl, by rw [HE.out]; exact HG5.out, HB5.out, HF5.out⟩
  rw [hroom, Bool.true_and] at HMB
  clear hroom
  obtain ⟨G, hG⟩ : ∃ G, G = goldOf s (fld u 1) := ⟨_, rfl⟩
  have hGb : 0 ≤ G ∧ G ≤ 1000 := by rw [hG]; unfold goldOf; split <;> omega
  rw [← hG] at HMB
  have hcost := cost_bd (fld q 3)
  obtain ⟨ev, fv, bv, B, hGm⟩ := hG5
  obtain ⟨ea, c, rfl, hcap, _, _⟩ := hGm.er.open
  obtain ⟨c0, c1, c2, c3, c4, c5, c6, c7⟩ := hGm.eight
  have HG5 : Hid (GmE base w5 p s was) := ⟨_, _, _, _, hGm⟩
  clear hGm c0 c3 c4 c6 c7
  have HGG := hid hG
  have gcs : (fld u 1 = 0 ∧ w5.cell? ⟨p, 1, none⟩ = some (.int .i64 G)) ∨ (fld u 1 = 1 ∧ w5.cell? ⟨p, 2, none⟩ = some (.int .i64 G)) := by
    rcases HO.out with hu1 | hu1
    · exact Or.inl ⟨hu1, by rw [hG, hu1]; exact c1⟩
    · exact Or.inr ⟨hu1, by rw [hG, hu1]; exact c2⟩
  clear c1 c2 hG
  by_cases hlow : G < Pl.eCost (fld q 3)
  · have HE : Hid (buildS s u q = s) := by show _ = _; unfold buildS; rw [HMB.out, decide_eq_false (by omega)]; rfl
    rcases gcs with ⟨hu1, gc⟩ | ⟨hu1, gc⟩
    all_goals
      go_wp2_with fail
      go_quiet (fail)
      go_wp2
      refine bodyPost_ret (results_none rfl _ _ _) rfl ?_
      exact ⟨rfl, by rw [HE.out]; exact HG5.out.below (below_drewN (Below.refl _ _) _), below_drewN HB5.out _, HF5.out.trans (Fr.below (below_drewN (Below.refl _ _) _) (by omega))⟩
  have hlowd : decide (G < Pl.eCost (fld q 3)) = false := decide_eq_false hlow
  by_cases hfull : 20 ≤ s.es.length
  · have HE : Hid (buildS s u q = s) := by show _ = _; unfold buildS; rw [HMB.out, decide_eq_false (show ¬ s.es.length < 20 by omega), Bool.and_false]; rfl
    have hfz : (20 : Int) ≤ (s.es.length : Int) := by omega
    rcases gcs with ⟨hu1, gc⟩ | ⟨hu1, gc⟩
    all_goals
      go_wp2_with fail
      go_quiet (fail)
      go_wp2
      refine bodyPost_ret (results_none rfl _ _ _) rfl ?_
      exact ⟨rfl, by rw [HE.out]; exact HG5.out.below (below_drewN (Below.refl _ _) _), below_drewN HB5.out _, HF5.out.trans (Fr.below (below_drewN (Below.refl _ _) _) (by omega))⟩
  have hfz : ¬ (20 : Int) ≤ (s.es.length : Int) := by omega
  have hfd : decide ((20 : Int) ≤ (s.es.length : Int)) = false := decide_eq_false hfz
  have HMB2 : Hid (mayBuild s u q = true) := by show _ = _; rw [HMB.out, decide_eq_true (by omega), decide_eq_true (by omega)]; rfl
  clear HMB
  cases htk : takeS s with
  | none =>
    have HE : Hid (buildS s u q = s) := by show _ = _; unfold buildS; rw [if_pos HMB2.out, htk]
    have HT : Hid (∀ W, GmE base W p s was → Calls Try.prog 143 #[.pointer (some ⟨p, 0, none⟩)] W fun e w' => e = .returned (.tuple #[.int .i64 0, .bool false]) ∧ w' = W) := fun W hW => takeID_no base p s was W htk hW
    clear htk
    rcases gcs with ⟨hu1, gc⟩ | ⟨hu1, gc⟩
    all_goals
      go_wp2_with fail
      go_quiet (fail)
      go_wp2_with fail
      refine (HT.out _ (HG5.out.below (below_drewN (Below.refl _ _) _))).mono ?_
      rintro e w6 ⟨rfl, rfl⟩
      go_wp2
      refine bodyPost_ret (results_none rfl _ _ _) rfl ?_
      exact ⟨rfl, by rw [HE.out]; exact HG5.out.below (below_drewN (Below.refl _ _) _), below_drewN HB5.out _, HF5.out.trans (Fr.below (below_drewN (Below.refl _ _) _) (by omega))⟩
  | some r =>
    obtain ⟨id, s1⟩ := r
    have HE : Hid (buildS s u q = { payS s1 (fld u 1) (Pl.eCost (fld q 3)) with es := insE s1.es (newU id (fld u 1) (fld q 3) (fld q 4) (fld q 5)), born := s1.born ++ [id] }) := by show _ = _; unfold buildS; rw [if_pos HMB2.out, htk]
    have HT : Hid (∀ W, GmE base W p s was → Calls Try.prog 143 #[.pointer (some ⟨p, 0, none⟩)] W fun e w' => e = .returned (.tuple #[.int .i64 id, .bool true]) ∧ GmE base w' p s1 was ∧ Below base W w' ∧ Fr W w' p) := fun W hW => takeID_some base p s was W id s1 htk hn0 hfl hW
    have hs1 : s1.es = s.es ∧ s1.born = s.born ∧ s1.g0 = s.g0 ∧ s1.g1 = s.g1 := by
      unfold takeS at htk
      split at htk
      · split at htk
        · cases htk
        · cases htk; exact ⟨rfl, rfl, rfl, rfl⟩
      · cases htk; exact ⟨rfl, rfl, rfl, rfl⟩
    have HS := hid hs1
    clear htk hs1
    rcases gcs with ⟨hu1, gc⟩ | ⟨hu1, gc⟩
    all_goals
      go_wp2_with fail
      go_quiet (fail)
      go_wp2_with fail
      refine (HT.out _ (HG5.out.below (below_drewN (Below.refl _ _) _))).mono ?_
      clear HT x0 x1 x2 x3 x4 x5 x6 x7 x8 x9 y3 y4 y5 z0 z1 gc c5
      rintro e w6 ⟨rfl, hG6, hb6, hf6⟩
      obtain ⟨hBx6, hA6⟩ := HBX5.out.frame (W' := w6) (p := p) ((Fr.below (below_drewN (Below.refl _ _) _) (by omega)).trans hf6) HA5.out
      have HF6 := hid (HF5.out.trans ((Fr.below (below_drewN (Below.refl _ _) _) (by omega)).trans hf6))
      have HB6 := hid ((below_drewN HB5.out _).trans hb6)
      have hs6 : w.heap.size + 4 ≤ w6.heap.size := Nat.le_trans hs5 hf6.1
      obtain ⟨x0, x1, x2, x3, x4, x5, x6, x7, x8, x9, y3, y4, y5, z0, z1⟩ := hBx6.cells
      have hpay := gm_pay hG6 (fld u 1) (Pl.eCost (fld q 3)) HO.out
      have hgo : goldOf s1 (fld u 1) = G := by rw [HGG.out]; unfold goldOf; rw [HS.out.2.2.1, HS.out.2.2.2]
      rw [hgo] at hpay
      have HBX6 := hid hBx6
      have HA6 := hid hA6
      clear hBx6 hA6 hf6 hb6 hG6 hgo
      first
        | rw [show 1 + (fld u 1).toNat = 1 by rw [hu1]; rfl] at hpay
        | rw [show 1 + (fld u 1).toNat = 2 by rw [hu1]; rfl] at hpay
      obtain ⟨PS, hPS⟩ : ∃ PS, PS = payS s1 (fld u 1) (Pl.eCost (fld q 3)) := ⟨_, rfl⟩
      rw [← hPS] at hpay HE
      have hes7 : PS.es = s.es ∧ PS.born = s.born := by
        rw [hPS]
        unfold payS
        split
        · exact ⟨HS.out.1, HS.out.2.1⟩
        · exact ⟨HS.out.1, HS.out.2.1⟩
      clear hPS
      rw [HS.out.1, HS.out.2.1, ← hes7.1, ← hes7.2, hu1] at HE
      obtain ⟨hG7, hF7, gc6, gf6⟩ := hpay
      have HG7 := hid hG7.drew
      have HF7 := hid (HF6.out.trans hF7.drew)
      have HB7 : Hid (∀ j, Below base w (w6.setCell ⟨p, j, none⟩ (.int .i64 (G - Pl.eCost (fld q 3)))).drew) := fun j => (HB6.out.setCell (p := ⟨p, j, none⟩) hlt.1 _).drew
      have HES7 := hid hes7
      clear hG7 hF7 hes7
      go_wp2_with fail
      go_region
      all_goals
        go_wp2_with fail
        refine (add_calls base p _ was (newU id _ (fld q 3) (fld q 4) (fld q 5)) _ (by rw [HES7.out.1]; omega) HG7.out).mono ?_
        rintro e w8 ⟨rfl, hG8, hb8, hf8⟩
        have HF8 := hid (HF7.out.trans hf8)
        have HB8 := hid ((HB7.out _).trans hb8)
        obtain ⟨ev8, fv8, bv8, B8, hGm8⟩ := hG8
        obtain ⟨ba, bc, rfl, hcap8, _, _⟩ := hGm8.br.open
        obtain ⟨d0, d1, d2, d3, d4, d5, d6, d7⟩ := hGm8.eight
        have HGm8 := hid hGm8
        have hp8 : p < w8.heap.size := hGm8.lt
        have hbs8 : base ≤ w8.heap.size := by omega
        clear hGm8 hf8 hb8 d0 d1 d2 d3 d4 d5 d6 gc6 gf6 x0 x1 x2 x3 x4 x5 x6 x7 x8 x9 y3 y4 y5 z0 z1 hcap8
        go_wp2_with (at_builtin; refine wp_nums _ rfl _ _ rfl base _ _ rfl (World.ownsRow.alloc HGm8.out.br _) (some ⟨w8.heap.size, 0, none⟩) 1 [id] rfl (nums_one w8 id _) (by simp) (by show PS.born.length + 1 ≤ 100000; rw [HES7.out.2]; omega) (by simp [go_sem]; omega) ?_
                     intro v9 w9 hr9 hg9 hl9
                     have hr9' := hr9
                     obtain ⟨va, vc, rfl, _, _, _⟩ := hr9'.open
                     obtain ⟨kp, ke, kf, kc⟩ := (HGm8.out.below ((Below.refl _ w8).alloc (Nat.le_refl _) _)).grownB hg9
                     have f7 := frozen_of_row w9 p 7 _ _ kp
                     have e7 := cell_of_row w9 p 7 _ _ _ kp
                     clear hr9')
        have hlv : (PS.born ++ [id]).length = PS.born.length + 1 := by rw [List.length_append]; rfl
        rw [hlv] at hr9 hl9
        have HR9 := hid hr9
        have HGR : Hid ((w8.alloc (.cells #[.int .i64 id] 3)).grownBy w9 (Value.slice ba PS.born.length bc).ownBlock) := hg9
        have HL9 : Hid ((Value.slice va (PS.born.length + 1) vc).ownBlock = (Value.slice ba PS.born.length bc).ownBlock ∨ (Value.slice va (PS.born.length + 1) vc).ownBlock = some (w8.heap.size + 1)) := by
          rcases hl9 with h | h
          · exact Or.inl h
          · exact Or.inr (by rw [h]; simp [go_sem])
        have HKP := hid kp
        have HKE := hid ke
        have HKF := hid kf
        have HKC := hid kc
        clear hr9 hl9 hg9 kp ke kf kc hlv
        go_end0
        have hfb : fv8.ownBlock = none ∨ fv8.ownBlock ≠ (Value.slice va (PS.born.length + 1) vc).ownBlock := by
          rcases HL9.out with h | h
          · rw [h]
            exact HGm8.out.fb
          · refine Or.inr fun e => ?_
            have h2 := (World.ownsRow.lt HGm8.out.fr _ (e.trans h)).2
            omega
        have hG9 := gm_pset HKP.out HKC.out HGm8.out.bp HGm8.out.bB 7 (.slice va (PS.born.length + 1) vc) (s' := { PS with es := insE PS.es (newU id _ (fld q 3) (fld q 4) (fld q 5)), born := PS.born ++ [id] }) rfl HKE.out HKF.out HR9.out hfb
        refine ⟨rfl, ?_, ?_, ?_⟩
        · rw [HE.out]
          exact ⟨_, _, _, _, hG9⟩
        · exact ((HB8.out.alloc hbs8 _).grown HGR.out (by simp [go_sem]; omega) (fun k hk => (World.ownsRow.lt HGm8.out.br k hk).1)).setCell (p := ⟨p, 7, none⟩) hlt.1 _
        · refine HF8.out.trans (HGm8.out.frame hG9 ?_ ?_ (fun _ hk => Or.inl hk) (fun _ hk => Or.inl hk) ?_)
          · have h1 := HGR.out.size
            simp [go_sem] at h1 ⊢
            omega
          · intro k hk hkp _ _ hkb _
            rw [heap_setCell_other w9 ⟨p, 7, none⟩ k _ (fun e => hkp e), HGR.out.block k (by simp [go_sem]; omega) (fun e => hkb e.symm), heap_alloc_old _ _ hk]
          · intro k hk
            rcases HL9.out with h | h
            · exact Or.inl (h.symm.trans hk)
            · have h2 := h.symm.trans hk
              simp only [Option.some.injEq] at h2
              exact Or.inr (by omega)
end Go.Proofs.Ytakmjfchhchngaa
