/- ViewSays: the walk. -/
import Derived.Test.YtgiieepfhohmhaaVRgU
import Derived.Test.YtgiieepfhohmhaaVVwK
import Derived.Test.YtgiieepfhohmhaaVEsNC
import Derived.Test.YtgiieepfhohmhaaVNrA
namespace Go.Proofs.Ytgiieepfhohmhaa
open Go.RowKit Go.Maps
theorem view_held {Y : World} {b : Nat} {a0 a1 a2 a3 : Value} (h : Y.heap[b]? = some (.cells #[a0, a1, a2, a3] 115)) :
    (∀ w', Below Y.heap.size Y w' → w'.cell? ⟨b, 0, none⟩ = some a0) ∧ (∀ w', Below Y.heap.size Y w' → w'.cell? ⟨b, 1, none⟩ = some a1) ∧ (∀ w', Below Y.heap.size Y w' → w'.cell? ⟨b, 2, none⟩ = some a2) ∧ (∀ w', Below Y.heap.size Y w' → w'.cell? ⟨b, 3, none⟩ = some a3) := by
  have k : ∀ w', Below Y.heap.size Y w' → w'.heap[b]? = some (.cells #[a0, a1, a2, a3] 115) := fun w' hb => (hb.block b (Array.getElem?_eq_some_iff.1 h).1).trans h
  exact ⟨fun w' hb => (four_cells (k w' hb)).1, fun w' hb => (four_cells (k w' hb)).2.1, fun w' hb => (four_cells (k w' hb)).2.2.1, fun w' hb => (four_cells (k w' hb)).2.2.2.1⟩
theorem boxes4 {w W : World} {c0 c1 c2 c3 : Array Value} {t0 t1 t2 t3 : TypeId} (hW : (((w.alloc (.cells c0 t0)).alloc (.cells c1 t1)).alloc (.cells c2 t2)).alloc (.cells c3 t3) = W) :
    Below w.heap.size w W ∧ W.heap.size = w.heap.size + 4 ∧ W.heap[w.heap.size]? = some (.cells c0 t0) ∧ W.heap[w.heap.size + 1]? = some (.cells c1 t1) ∧ W.heap[w.heap.size + 2]? = some (.cells c2 t2) ∧ W.heap[w.heap.size + 3]? = some (.cells c3 t3) := by
  obtain ⟨A, hA⟩ : ∃ A, w.alloc (.cells c0 t0) = A := ⟨_, rfl⟩
  obtain ⟨B, hB⟩ : ∃ B, A.alloc (.cells c1 t1) = B := ⟨_, rfl⟩
  obtain ⟨C, hC⟩ : ∃ C, B.alloc (.cells c2 t2) = C := ⟨_, rfl⟩
  have sA : A.heap.size = w.heap.size + 1 := by rw [← hA]; simp [go_sem]
  have sB : B.heap.size = w.heap.size + 2 := by rw [← hB]; simp [go_sem, sA]
  have sC : C.heap.size = w.heap.size + 3 := by rw [← hC]; simp [go_sem, sB]
  rw [hA, hB, hC] at hW
  have hD : ∀ k, k < C.heap.size → W.heap[k]? = C.heap[k]? := fun k hk => by rw [← hW]; exact heap_alloc_old _ _ hk
  have hCk : ∀ k, k < B.heap.size → C.heap[k]? = B.heap[k]? := fun k hk => by rw [← hC]; exact heap_alloc_old _ _ hk
  have hBk : ∀ k, k < A.heap.size → B.heap[k]? = A.heap[k]? := fun k hk => by rw [← hB]; exact heap_alloc_old _ _ hk
  refine ⟨?_, ?_, ?_, ?_, ?_, ?_⟩
  · rw [← hW, ← hC, ← hB, ← hA]
    exact ((((Below.refl _ w).alloc (Nat.le_refl _) _).alloc (by simp [go_sem]) _).alloc (by simp [go_sem]; omega) _).alloc (by simp [go_sem]; omega) _
  · rw [← hW]; simp [go_sem, sC]
  · rw [hD _ (by omega), hCk _ (by omega), hBk _ (by omega), ← hA]; exact heap_alloc_new _ _
  · rw [hD _ (by omega), hCk _ (by omega), ← sA, ← hB]; exact heap_alloc_new _ _
  · rw [hD _ (by omega), ← sB, ← hC]; exact heap_alloc_new _ _
  · rw [← sC, ← hW]; exact heap_alloc_new _ _
theorem sameL_refl (l : List (List Int)) : sameL l l := ⟨rfl, fun _ _ => rfl⟩
theorem sameV_refl (v : Vw) : sameV v v := ⟨rfl, ⟨rfl, rfl⟩, sameL_refl _⟩
theorem unitF (u : List Int) (j : Nat) (h : j < 10) : fld (unitE u) j = fld u j := fldU u h
theorem viewOf_up (base p : Nat) (s : St) (w : World) (hG : GrE base w p false (upS s)) (hn : s.es.length ≤ 25) :
    Calls Try.prog 63 #[.pointer (some ⟨p, 0, none⟩)] w fun e w' => ∃ ya yc, e = .returned (viewV s.t s.g0 s.g1 (.slice ya (viewL s.es).length yc)) ∧ Recs w' ya 10 (viewL s.es) ∧ Below w.heap.size w w' := by
  refine (viewOf_calls base p false (upS s) w hG (by show (s.es.map unitE).length ≤ 100; rw [List.length_map]; omega)).mono ?_
  rintro e w' ⟨av, rfl, hr, hb⟩
  have ev : viewL (upS s).es = viewL s.es := viewF unitF s.es
  rw [ev] at hr
  obtain ⟨ya, yc, rfl, _, hrec, _⟩ := hr.open
  exact ⟨ya, yc, rfl, hrec, hb⟩
theorem viewOf_nw (base p : Nat) (s : St) (w : World) (hG : GrE base w p true s) (hn : s.es.length ≤ 25) :
    Calls Try.prog 63 #[.pointer (some ⟨p, 0, none⟩)] w fun e w' => ∃ ya yc, e = .returned (viewV s.t s.g0 s.g1 (.slice ya (viewL s.es).length yc)) ∧ Recs w' ya 10 (viewL s.es) ∧ Below w.heap.size w w' := by
  refine (viewOf_calls base p true s w hG (by omega)).mono ?_
  rintro e w' ⟨av, rfl, hr, hb⟩
  obtain ⟨ya, yc, rfl, _, hrec, _⟩ := hr.open
  exact ⟨ya, yc, rfl, hrec, hb⟩
set_option maxRecDepth 100000 in
set_option maxHeartbeats 16000000 in
theorem viewSays_calls {ρ : Go.Shelf.Ren} (Ly : SlLaysF0.n6 Try.prog ρ) (h6 : ρ.f 6 = 169) (h24 : ρ.t 24 = 171)
    (HN0 : Hid (∀ w, Calls Try.prog 169 #[.slice none 0 0, .func (.func 170) #[] #[]] w fun e w' => e = .returned (.tuple #[]) ∧ w' = w))
    (s S : St) (a b : Vw) (fa ea ua aa ba : Option Addr) (fc ec uc ac bc : Nat) (w : World) (h : InE w s fa ea fc ec) (hS : InW w S ua uc) (ha : Recs w aa 10 a.ss) (hb : Recs w ba 10 b.ss) :
    Calls Try.prog 11 #[elderV s.t s.g0 s.g1 s.nx (.slice fa s.free.length fc) (.slice ea s.es.length ec), newerV S.t S.g0 S.g1 S.nx (.slice ua S.es.length uc), viewV a.t a.g0 a.g1 (.slice aa a.ss.length ac), viewV b.t b.g0 b.g1 (.slice ba b.ss.length bc)] w fun e w' => e = .returned (.bool true) ∧ Below w.heap.size w w' := by
  obtain ⟨W, hW⟩ : ∃ W, (((w.alloc (.cells (elC s.t s.g0 s.g1 s.nx (.slice fa s.free.length fc) (.slice ea s.es.length ec)) 60)).alloc (.cells (newerC S.t S.g0 S.g1 S.nx (.slice ua S.es.length uc)) 90)).alloc (.cells (viewC a.t a.g0 a.g1 (.slice aa a.ss.length ac)) 115)).alloc (.cells (viewC b.t b.g0 b.g1 (.slice ba b.ss.length bc)) 115) = W := ⟨_, rfl⟩
  obtain ⟨hbW, hsW, hh0, hh1, hh2, hh3⟩ := boxes4 hW
  have HLK := hid (looks_calls Ly h6 h24 HN0 W)
  have HVE : Hid (∀ wx (fo eo : Option Addr) (fco eco : Nat), InE wx s fo eo fco eco → Calls Try.prog 61 #[elderV s.t s.g0 s.g1 s.nx (.slice fo s.free.length fco) (.slice eo s.es.length eco)] wx (AnsV (checkE s.t s.g0 s.g1 s.nx s.free s.es) (vwE s) wx)) := fun wx fo eo fco eco hi => viewE_all Ly h6 h24 HN0 s fo eo fco eco wx hi
  have HVN : Hid (∀ wx (eo : Option Addr) (eco : Nat), InW wx S eo eco → Calls Try.prog 64 #[newerV S.t S.g0 S.g1 S.nx (.slice eo S.es.length eco)] wx (AnsV (ckN S) (vwN S) wx)) := fun wx eo eco hi => viewN_all Ly h6 h24 HN0 S eo eco wx hi
  have HBW := hid hbW
  have HSW := hid hsW
  have H0 := hid hh0
  have H1 := hid hh1
  have H2 := hid hh2
  have H3 := hid hh3
  have HIN := hid (h.below hbW)
  have HIS := hid (hS.below hbW)
  have HA := hid (ha.below hbW)
  have HB := hid (hb.below hbW)
  clear h hS ha hb hbW hsW hh0 hh1 hh2 hh3 HN0
  go_enter Try.func11, Try.ntmps11
  go_wp2_with fail
  refine HLK.out.mono ?_
  rintro e w1 ⟨rfl, hb1⟩
  obtain ⟨x0, x1, x2, x3, x4, x5⟩ := elder_cells ((hb1.block w.heap.size (by rw [HSW.out]; omega)).trans H0.out)
  have HB1 := hid hb1
  clear hb1 hW HLK
  go_wp2_with fail
  refine (lightElder_calls _ _ _ _ _ _ _ _ _ _ _).mono ?_
  rintro e w2 ⟨rfl, hb2⟩
  have HB2 : Hid (Below W.heap.size W w2) := HB1.out.trans (hb2.mono HB1.out.size)
  clear hb2 HB1 x0 x1 x2 x3 x4 x5
  have HF2 : Hid (Below w.heap.size w w2) := HBW.out.trans (HB2.out.mono (by rw [HSW.out]; omega))
  by_cases hlt : s.es.length ≤ 25 ∧ s.free.length ≤ 220
  case neg =>
    rw [decide_eq_false hlt]
    go_wp2
    go_ret
    exact ⟨rfl, HF2.out⟩
  rw [decide_eq_true hlt]
  obtain ⟨_, _, _, _, n4, _⟩ := five_cells ((HB2.out.block (w.heap.size + 1) (by rw [HSW.out]; omega)).trans H1.out)
  obtain ⟨_, _, _, p3, _⟩ := four_cells ((HB2.out.block (w.heap.size + 2) (by rw [HSW.out]; omega)).trans H2.out)
  obtain ⟨_, _, _, q3, _⟩ := four_cells ((HB2.out.block (w.heap.size + 3) (by rw [HSW.out]; omega)).trans H3.out)
  by_cases h25 : S.es.length ≤ 25
  case neg =>
    have hz : (25 : Int) < (S.es.length : Int) := by omega
    go_wp2
    go_ret
    exact ⟨rfl, HF2.out⟩
  have hz25 : ¬ (25 : Int) < (S.es.length : Int) := by omega
  by_cases hA40 : a.ss.length ≤ 40
  case neg =>
    have hz : (40 : Int) < (a.ss.length : Int) := by omega
    go_wp2
    go_ret
    exact ⟨rfl, HF2.out⟩
  have hzA : ¬ (40 : Int) < (a.ss.length : Int) := by omega
  by_cases hB40 : b.ss.length ≤ 40
  case neg =>
    have hz : (40 : Int) < (b.ss.length : Int) := by omega
    go_wp2
    go_ret
    exact ⟨rfl, HF2.out⟩
  have hzB : ¬ (40 : Int) < (b.ss.length : Int) := by omega
  obtain ⟨x0, x1, x2, x3, x4, x5⟩ := elder_cells ((HB2.out.block w.heap.size (by rw [HSW.out]; omega)).trans H0.out)
  have hin3 := HIN.out.below HB2.out
  have HOW := hid (ownElder_calls s.t s.g0 s.g1 s.nx s.free fa ea fc ec s.es w2 hin3.en hin3.fn (by omega) (by omega) hin3.rows hin3.nums)
  clear hin3
  go_wp2_with fail
  refine HOW.out.mono ?_
  rintro e w4 ⟨fo, eo, fco, eco, rfl, hro, hno, hco, heo, hfo, hb4⟩
  have HB4 : Hid (Below W.heap.size W w4) := HB2.out.trans (hb4.mono HB2.out.size)
  have hio : InE w4 s fo eo fco eco := ⟨(fun e => absurd e hfo), (fun e => absurd e heo), hco, hro, hno, HIN.out.wf, HIN.out.born⟩
  have HV4 := hid (HVE.out w4 fo eo fco eco hio)
  clear HOW hro hno hco heo hfo hb4 x0 x1 x2 x3 x4 x5 n4 p3 q3 hio HVE
  go_wp2_with fail
  obtain ⟨c, hc⟩ : ∃ c, checkE s.t s.g0 s.g1 s.nx s.free s.es = c := ⟨_, rfl⟩
  obtain ⟨V, hV⟩ : ∃ V, vwE s = V := ⟨_, rfl⟩
  have hc3 : c ≤ 3 := by rw [← hc]; exact check_le s
  have hVl : V.ss.length ≤ 20 := by rw [← hV]; exact vwE_len s
  rw [hc, hV] at HV4
  have HCC := hid hc
  have HVV := hid hV
  clear hc hV
  refine HV4.out.mono ?_
  rintro e w5 ⟨va, vc, rfl, hr5, hb5⟩
  obtain ⟨X, hX⟩ : ∃ X, w5.alloc (.cells (viewC V.t V.g0 V.g1 (.slice va V.ss.length vc)) 115) = X := ⟨_, rfl⟩
  have hbX : Below w5.heap.size w5 X := by rw [← hX]; exact (Below.refl _ _).alloc (Nat.le_refl _) _
  have hhX : X.heap[w5.heap.size]? = some (.cells (viewC V.t V.g0 V.g1 (.slice va V.ss.length vc)) 115) := by rw [← hX]; exact heap_alloc_new _ _
  have HRX := hid (hr5.below hbX)
  have HB5 : Hid (Below W.heap.size W w5) := HB4.out.trans (hb5.mono HB4.out.size)
  have HWX : Hid (Below W.heap.size W X) := HB5.out.trans (hbX.mono HB5.out.size)
  have HHX := hid hhX
  have HXX := hid hX
  clear hX hbX hhX hb5 hr5 HV4 HB4 HB5 HB2
  go_upto_region 5 with fail
  rw [HXX.out]
  obtain ⟨x0, x1, x2, x3, x4, x5⟩ := elder_cells ((HWX.out.block w.heap.size (by rw [HSW.out]; omega)).trans H0.out)
  have HOF : Hid (∀ wx, Below W.heap.size W wx → Calls Try.prog 43 #[elderV s.t s.g0 s.g1 s.nx (.slice fa s.free.length fc) (.slice ea s.es.length ec)] wx fun e w' => ∃ p, e = .returned (.pointer (some ⟨p, 0, none⟩)) ∧ GrE wx.heap.size w' p false (upS s) ∧ Below wx.heap.size wx w') := fun wx hx => by
    have hi := HIN.out.below hx
    have := ofElder_calls s.t s.g0 s.g1 s.nx s.free fa ea fc ec s.es wx (by omega) (by omega) hi.rows hi.nums hi.fn
    rw [st0_up HIN.out.born] at this
    exact this
  have HFA : Hid (∀ base wx p, GrE base wx p false (upS s) → Calls Try.prog 44 #[.pointer (some ⟨p, 0, none⟩)] wx fun e w' => e = .returned (.int .i64 c) ∧ Below wx.heap.size wx w') := fun base wx p hg => by
    have := fault_calls base p false (upS s) wx hg
    rw [faultU s, HCC.out] at this
    exact this
  have HOX := hid (HOF.out X HWX.out)
  go_wp2_with fail
  refine HOX.out.mono ?_
  rintro e w6 ⟨p, rfl, hg6, hb6⟩
  have HF6 := hid (HFA.out _ w6 p hg6)
  have HX6 := hid hb6
  clear hg6 hb6 HOX x0 x1 x2 x3 x4 x5
  go_wp2_with fail
  refine HF6.out.mono ?_
  rintro e Y ⟨rfl, hb7⟩
  have HXY : Hid (Below X.heap.size X Y) := HX6.out.trans (hb7.mono HX6.out.size)
  have HWY : Hid (Below W.heap.size W Y) := HWX.out.trans (HXY.out.mono HWX.out.size)
  clear hb7 HX6 HF6
  go_wp2_with fail
  obtain ⟨a0, a1, a2, a3, a4, a5⟩ := elder_held ((HWY.out.block w.heap.size (by rw [HSW.out]; omega)).trans H0.out)
  obtain ⟨d0, d1, d2, d3⟩ := view_held ((HXY.out.block w5.heap.size (Array.getElem?_eq_some_iff.1 HHX.out).1).trans HHX.out)
  have HSM : Hid (∀ wx, Calls Try.prog 15 #[errV c, .int .i64 c] wx fun e w' => e = .returned (.bool true) ∧ w' = wx) := fun wx => same_true c hc3 wx
  have HRY : Hid (Recs Y va 10 V.ss) := HRX.out.below HXY.out
  go_cut [75] (fun r wx => r = .bool false ∧ Hid (Below Y.heap.size Y wx))
  case first =>
    refine wp_region_noPanic ?_
    refine wp_region_till (S := fun w' : World => Below Y.heap.size Y w') 25 (by kernel_rfl) (Below.refl _ _).drew (fun hHeld => ?_)
    by_cases h0 : c = 0
    · have HOY : Hid (∀ wx, Below Y.heap.size Y wx → Calls Try.prog 43 #[elderV s.t s.g0 s.g1 s.nx (.slice fa s.free.length fc) (.slice ea s.es.length ec)] wx fun e w' => ∃ p, e = .returned (.pointer (some ⟨p, 0, none⟩)) ∧ GrE wx.heap.size w' p false (upS s) ∧ Below wx.heap.size wx w') := fun wx hx => HOF.out wx (HWY.out.trans (hx.mono HWY.out.size))
      have HVO : Hid (∀ base wx p, GrE base wx p false (upS s) → Calls Try.prog 63 #[.pointer (some ⟨p, 0, none⟩)] wx fun e w' => ∃ ya yc, e = .returned (viewV s.t s.g0 s.g1 (.slice ya (viewL s.es).length yc)) ∧ Recs w' ya 10 (viewL s.es) ∧ Below wx.heap.size wx w') := fun base wx p hg => viewOf_up base p s wx hg hlt.1
      have ev : V = ⟨s.t, s.g0, s.g1, viewL s.es⟩ := by
        rw [← HVV.out]
        exact if_pos (HCC.out.trans h0)
      have HSE : Hid (∀ wx (ya : Option Addr) (yc : Nat), Below Y.heap.size Y wx → Recs wx ya 10 (viewL s.es) → Calls Try.prog 62 #[viewV V.t V.g0 V.g1 (.slice va V.ss.length vc), viewV s.t s.g0 s.g1 (.slice ya (viewL s.es).length yc)] wx fun e w' => e = .returned (.bool true) ∧ Below wx.heap.size wx w') := fun wx ya yc hx hy => by
        have := sameView_calls V ⟨s.t, s.g0, s.g1, viewL s.es⟩ va ya vc yc wx (HRY.out.below hx) hy (by omega)
        rw [decide_eq_true (by rw [ev]; exact sameV_refl _)] at this
        exact this
      have hq0 : ((c : Int) == 0) = true := by rw [h0]; rfl
      have hq1 : decide (0 < c) = false := by rw [h0]; rfl
      clear ev h0 HOF
      have HOF := HOY
      clear HOY
      refine wpTill_take (i := 0) [0, 2, 3, 4, 5, 6, 7, 8, 9, 10, 11, 12, 13, 14, 15, 16, 17, 18, 19, 20, 21, 22, 23, 24, 25] (v := ?_) rfl (by kernel_rfl) (by kernel_rfl) (by kernel_rfl) (by kernel_rfl) (fun _ _ _ h => h) (Or.inl ⟨by kernel_rfl, ?_⟩) (by assumption) ?_
      rotate_left
      · intro w' hSw
        go_simp
        all_goals with_reducible rfl
      simp only [Act.put]
      refine wpTill_take (i := 1) [1, 2, 3, 4, 5, 6, 7, 8, 9, 10, 11, 12, 13, 14, 15, 16, 17, 18, 19, 20, 21, 22, 23, 24, 25] (v := ?_) rfl (by kernel_rfl) (by kernel_rfl) (by kernel_rfl) (by kernel_rfl) (fun _ _ _ h => h) (Or.inl ⟨by kernel_rfl, ?_⟩) (by assumption) ?_
      rotate_left
      · intro w' hSw
        go_simp
        all_goals with_reducible rfl
      simp only [Act.put]
      refine wpTill_one (i := 2) (by kernel_rfl) rfl (fun K hK => ?_)
      go_simp
      refine (HSM.out _).mono ?_
      rintro e w2 ⟨rfl, rfl⟩
      go_wp2_with fail
      refine hK.out _ _ (fun _ => by assumption) ?_
      clear hK K
      refine wpTill_take (i := 3) [3, 4, 5, 6, 7, 8, 9, 10, 11, 12, 13, 14, 15, 16, 17, 18, 19, 20, 21, 22, 23, 24, 25] (v := ?_) rfl (by kernel_rfl) (by kernel_rfl) (by kernel_rfl) (by kernel_rfl) (fun _ _ _ h => h) (Or.inl ⟨by kernel_rfl, ?_⟩) (by assumption) ?_
      rotate_left
      · intro w' hSw
        go_simp
        all_goals with_reducible rfl
      simp only [Act.put]
      refine wpTill_take (i := 4) [4, 5, 6, 7, 8, 9, 10, 11, 12, 13, 14, 15, 16, 17, 18, 19, 20, 21, 22, 23, 24, 25] (v := ?_) rfl (by kernel_rfl) (by kernel_rfl) (by kernel_rfl) (by kernel_rfl) (fun _ _ _ h => h) (Or.inl ⟨by kernel_rfl, ?_⟩) (by assumption) ?_
      rotate_left
      · intro w' hSw
        go_simp
        all_goals with_reducible rfl
      simp only [Act.put]
      refine wpTill_take (i := 5) [5, 6, 7, 8, 9, 10, 11, 12, 13, 14, 15, 16, 17, 18, 19, 20, 21, 22, 23, 24, 25] (v := ?_) rfl (by kernel_rfl) (by kernel_rfl) (by kernel_rfl) (by kernel_rfl) (fun _ _ _ h => h) (Or.inl ⟨by kernel_rfl, ?_⟩) (by assumption) ?_
      rotate_left
      · intro w' hSw
        go_simp
        all_goals with_reducible rfl
      simp only [Act.put]
      refine wpTill_take (i := 6) [6, 7, 8, 9, 10, 11, 12, 13, 14, 15, 16, 17, 18, 19, 20, 21, 22, 23, 24, 25] (v := ?_) rfl (by kernel_rfl) (by kernel_rfl) (by kernel_rfl) (by kernel_rfl) (fun _ _ _ h => h) (Or.inl ⟨by kernel_rfl, ?_⟩) (by assumption) ?_
      rotate_left
      · intro w' hSw
        go_simp
        all_goals with_reducible rfl
      simp only [Act.put]
      refine wpTill_take (i := 7) [7, 8, 9, 10, 11, 12, 13, 14, 15, 16, 17, 18, 19, 20, 21, 22, 23, 24, 25] (v := ?_) rfl (by kernel_rfl) (by kernel_rfl) (by kernel_rfl) (by kernel_rfl) (fun _ _ _ h => h) (Or.inl ⟨by kernel_rfl, ?_⟩) (by assumption) ?_
      rotate_left
      · intro w' hSw
        go_simp
        all_goals with_reducible rfl
      simp only [Act.put]
      refine wpTill_take (i := 8) [8, 12, 13, 14, 15, 16, 17, 18, 19, 20, 21, 22, 23, 24, 25] (v := viewV V.t V.g0 V.g1 (.slice va V.ss.length vc)) rfl (by kernel_rfl) (by kernel_rfl) (by kernel_rfl) (by kernel_rfl) (fun _ _ _ h => h) (Or.inl ⟨by kernel_rfl, ?_⟩) (by assumption) ?_
      · intro w' hSw
        have e0 := d0 w' hSw
        have e1 := d1 w' hSw
        have e2 := d2 w' hSw
        have e3 := d3 w' hSw
        clear d0 d1 d2 d3 a0 a1 a2 a3 a4 a5 hSw
        go_simp
        all_goals with_reducible rfl
      simp only [Act.put]
      refine wpTill_take (i := 9) [9, 10, 11, 12, 13, 14, 15, 16, 17, 18, 19, 20, 21, 22, 23, 24, 25] (v := elderV s.t s.g0 s.g1 s.nx (.slice fa s.free.length fc) (.slice ea s.es.length ec)) rfl (by kernel_rfl) (by kernel_rfl) (by kernel_rfl) (by kernel_rfl) (fun _ _ _ h => h) (Or.inl ⟨by kernel_rfl, ?_⟩) (by assumption) ?_
      · intro w' hSw
        have e0 := a0 w' hSw
        have e1 := a1 w' hSw
        have e2 := a2 w' hSw
        have e3 := a3 w' hSw
        have e4 := a4 w' hSw
        have e5 := a5 w' hSw
        clear d0 d1 d2 d3 a0 a1 a2 a3 a4 a5 hSw
        go_simp
        all_goals with_reducible rfl
      simp only [Act.put]
      refine wpTill_one (i := 10) (by kernel_rfl) rfl (fun K hK => ?_)
      go_simp
      refine (HOF.out _ (by assumption)).mono ?_
      rintro e w3 ⟨p, rfl, hg3, hb3⟩
      have HS3 : Below Y.heap.size Y w3 := Below.trans (by assumption) (hb3.mono (Below.size (by assumption)))
      have HG3 := hid hg3
      clear hb3 hg3
      go_wp2_with fail
      refine hK.out _ _ (fun _ => HS3) ?_
      clear hK K
      refine wpTill_one (i := 11) (by kernel_rfl) rfl (fun K hK => ?_)
      go_simp
      refine (HVO.out _ _ p HG3.out).mono ?_
      rintro e w4 ⟨ya, yc, rfl, hr4, hb4⟩
      have HS4 : Below Y.heap.size Y w4 := HS3.trans (hb4.mono HS3.size)
      have HR4 := hid hr4
      clear hb4 hr4
      go_wp2_with fail
      refine hK.out _ _ (fun _ => HS4) ?_
      clear hK K
      refine wpTill_one (i := 12) (by kernel_rfl) rfl (fun K hK => ?_)
      go_simp
      refine (HSE.out _ ya yc HS4 HR4.out).mono ?_
      rintro e w5 ⟨rfl, hb5⟩
      have HS5 : Below Y.heap.size Y w5 := HS4.trans (hb5.mono HS4.size)
      clear hb5
      go_wp2_with fail
      refine hK.out _ _ (fun _ => HS5) ?_
      clear hK K
      refine wpTill_take (i := 13) [13, 14, 15, 16, 17, 18, 19, 20, 21, 22, 23, 24, 25] (v := ?_) rfl (by kernel_rfl) (by kernel_rfl) (by kernel_rfl) (by kernel_rfl) (fun _ _ _ h => h) (Or.inl ⟨by kernel_rfl, ?_⟩) (by assumption) ?_
      rotate_left
      · intro w' hSw
        go_simp
        all_goals with_reducible rfl
      simp only [Act.put]
      refine wpTill_take (i := 14) [14, 15, 16, 17, 18, 19, 20, 21, 22, 23, 24, 25] (v := ?_) rfl (by kernel_rfl) (by kernel_rfl) (by kernel_rfl) (by kernel_rfl) (fun _ _ _ h => h) (Or.inl ⟨by kernel_rfl, ?_⟩) (by assumption) ?_
      rotate_left
      · intro w' hSw
        go_simp
        all_goals with_reducible rfl
      simp only [Act.put]
      refine wpTill_take (i := 15) [15, 16, 17, 18, 19, 20, 21, 22, 23, 24, 25] (v := ?_) rfl (by kernel_rfl) (by kernel_rfl) (by kernel_rfl) (by kernel_rfl) (fun _ _ _ h => h) (Or.inl ⟨by kernel_rfl, ?_⟩) (by assumption) ?_
      rotate_left
      · intro w' hSw
        go_simp
        all_goals with_reducible rfl
      simp only [Act.put]
      refine wpTill_take (i := 16) [16, 17, 18, 19, 20, 21, 22, 23, 24, 25] (v := ?_) rfl (by kernel_rfl) (by kernel_rfl) (by kernel_rfl) (by kernel_rfl) (fun _ _ _ h => h) (Or.inl ⟨by kernel_rfl, ?_⟩) (by assumption) ?_
      rotate_left
      · intro w' hSw
        go_simp
        all_goals with_reducible rfl
      simp only [Act.put]
      refine wpTill_take (i := 17) [17, 18, 19, 20, 21, 22, 23, 24, 25] (v := ?_) rfl (by kernel_rfl) (by kernel_rfl) (by kernel_rfl) (by kernel_rfl) (fun _ _ _ h => h) (Or.inl ⟨by kernel_rfl, ?_⟩) (by assumption) ?_
      rotate_left
      · intro w' hSw
        go_simp
        all_goals with_reducible rfl
      simp only [Act.put]
      refine wpTill_take (i := 18) [18, 19, 20, 21, 22, 23, 24, 25] (v := ?_) rfl (by kernel_rfl) (by kernel_rfl) (by kernel_rfl) (by kernel_rfl) (fun _ _ _ h => h) (Or.inl ⟨by kernel_rfl, ?_⟩) (by assumption) ?_
      rotate_left
      · intro w' hSw
        go_simp
        all_goals with_reducible rfl
      simp only [Act.put]
      refine wpTill_take (i := 19) [19, 20, 21, 22, 23, 24, 25] (v := ?_) rfl (by kernel_rfl) (by kernel_rfl) (by kernel_rfl) (by kernel_rfl) (fun _ _ _ h => h) (Or.inl ⟨by kernel_rfl, ?_⟩) (by assumption) ?_
      rotate_left
      · intro w' hSw
        go_simp
        all_goals with_reducible rfl
      simp only [Act.put]
      refine wpTill_take (i := 20) [20, 22, 23, 24, 25] (v := undef) rfl (by kernel_rfl) (by kernel_rfl) (by kernel_rfl) (by kernel_rfl) (fun _ _ _ h => h) (Or.inr ⟨by kernel_rfl, rfl⟩) (by assumption) ?_
      simp only [Act.put]
      refine wpTill_take (i := 21) [21, 22, 23, 24, 25] (v := undef) rfl (by kernel_rfl) (by kernel_rfl) (by kernel_rfl) (by kernel_rfl) (fun _ _ _ h => h) (Or.inr ⟨by kernel_rfl, rfl⟩) (by assumption) ?_
      simp only [Act.put]
      refine wpTill_take (i := 22) [22, 23, 24, 25] (v := undef) rfl (by kernel_rfl) (by kernel_rfl) (by kernel_rfl) (by kernel_rfl) (fun _ _ _ h => h) (Or.inr ⟨by kernel_rfl, rfl⟩) (by assumption) ?_
      simp only [Act.put]
      refine wpTill_take (i := 23) [23, 24, 25] (v := undef) rfl (by kernel_rfl) (by kernel_rfl) (by kernel_rfl) (by kernel_rfl) (fun _ _ _ h => h) (Or.inr ⟨by kernel_rfl, rfl⟩) (by assumption) ?_
      simp only [Act.put]
      refine wpTill_take (i := 24) [24, 25] (v := ?_) rfl (by kernel_rfl) (by kernel_rfl) (by kernel_rfl) (by kernel_rfl) (fun _ _ _ h => h) (Or.inl ⟨by kernel_rfl, ?_⟩) (by assumption) ?_
      rotate_left
      · intro w' hSw
        go_simp
        all_goals with_reducible rfl
      simp only [Act.put]
      refine wpTill_one (i := 25) (by kernel_rfl) rfl (fun K hK => ?_)
      go_simp
      refine hK.out _ _ (fun h => absurd rfl h) ?_
      clear hK K
      refine wpTill_done (by kernel_rfl) ?_ _
      refine NoPanic.normal ?_
      go_wp2
      go_meet
      exact ⟨rfl, HS5⟩
    · have ev : V = zeroW := by
        rw [← HVV.out]
        exact if_neg (fun h => h0 (HCC.out.symm.trans h))
      have HSZ : Hid (∀ wx, Below Y.heap.size Y wx → Calls Try.prog 62 #[viewV V.t V.g0 V.g1 (.slice va V.ss.length vc), viewV 0 0 0 (.slice none 0 0)] wx fun e w' => e = .returned (.bool true) ∧ Below wx.heap.size wx w') := fun wx hx => by
        have := sameView_calls V zeroW va none vc 0 wx (HRY.out.below hx) (Or.inl rfl) (by omega)
        rw [decide_eq_true (by rw [ev]; exact sameV_refl _)] at this
        exact this
      have hq0 : ((c : Int) == 0) = false := by rw [beq_eq_false_iff_ne]; omega
      have hq1 : 0 < c := by omega
      clear ev h0 HOF
      refine wpTill_take (i := 0) [0, 2, 3, 4, 5, 6, 7, 8, 9, 10, 11, 12, 13, 14, 15, 16, 17, 18, 19, 20, 21, 22, 23, 24, 25] (v := ?_) rfl (by kernel_rfl) (by kernel_rfl) (by kernel_rfl) (by kernel_rfl) (fun _ _ _ h => h) (Or.inl ⟨by kernel_rfl, ?_⟩) (by assumption) ?_
      rotate_left
      · intro w' hSw
        go_simp
        all_goals with_reducible rfl
      simp only [Act.put]
      refine wpTill_take (i := 1) [1, 2, 3, 4, 5, 6, 7, 8, 9, 10, 11, 12, 13, 14, 15, 16, 17, 18, 19, 20, 21, 22, 23, 24, 25] (v := ?_) rfl (by kernel_rfl) (by kernel_rfl) (by kernel_rfl) (by kernel_rfl) (fun _ _ _ h => h) (Or.inl ⟨by kernel_rfl, ?_⟩) (by assumption) ?_
      rotate_left
      · intro w' hSw
        go_simp
        all_goals with_reducible rfl
      simp only [Act.put]
      refine wpTill_one (i := 2) (by kernel_rfl) rfl (fun K hK => ?_)
      go_simp
      refine (HSM.out _).mono ?_
      rintro e w2 ⟨rfl, rfl⟩
      go_wp2_with fail
      refine hK.out _ _ (fun _ => by assumption) ?_
      clear hK K
      refine wpTill_take (i := 3) [3, 4, 5, 6, 7, 8, 9, 10, 11, 12, 13, 14, 15, 16, 17, 18, 19, 20, 21, 22, 23, 24, 25] (v := ?_) rfl (by kernel_rfl) (by kernel_rfl) (by kernel_rfl) (by kernel_rfl) (fun _ _ _ h => h) (Or.inl ⟨by kernel_rfl, ?_⟩) (by assumption) ?_
      rotate_left
      · intro w' hSw
        go_simp
        all_goals with_reducible rfl
      simp only [Act.put]
      refine wpTill_take (i := 4) [4, 5, 6, 7, 8, 9, 10, 11, 12, 13, 14, 15, 16, 17, 18, 19, 20, 21, 22, 23, 24, 25] (v := ?_) rfl (by kernel_rfl) (by kernel_rfl) (by kernel_rfl) (by kernel_rfl) (fun _ _ _ h => h) (Or.inl ⟨by kernel_rfl, ?_⟩) (by assumption) ?_
      rotate_left
      · intro w' hSw
        go_simp
        all_goals with_reducible rfl
      simp only [Act.put]
      refine wpTill_take (i := 5) [5, 6, 7, 8, 9, 10, 11, 12, 13, 14, 15, 16, 17, 18, 19, 20, 21, 22, 23, 24, 25] (v := ?_) rfl (by kernel_rfl) (by kernel_rfl) (by kernel_rfl) (by kernel_rfl) (fun _ _ _ h => h) (Or.inl ⟨by kernel_rfl, ?_⟩) (by assumption) ?_
      rotate_left
      · intro w' hSw
        go_simp
        all_goals with_reducible rfl
      simp only [Act.put]
      refine wpTill_take (i := 6) [6, 7, 8, 9, 10, 11, 12, 13, 14, 15, 16, 17, 18, 19, 20, 21, 22, 23, 24, 25] (v := ?_) rfl (by kernel_rfl) (by kernel_rfl) (by kernel_rfl) (by kernel_rfl) (fun _ _ _ h => h) (Or.inl ⟨by kernel_rfl, ?_⟩) (by assumption) ?_
      rotate_left
      · intro w' hSw
        go_simp
        all_goals with_reducible rfl
      simp only [Act.put]
      refine wpTill_take (i := 7) [7, 8, 9, 10, 11, 12, 13, 14, 15, 16, 17, 18, 19, 20, 21, 22, 23, 24, 25] (v := ?_) rfl (by kernel_rfl) (by kernel_rfl) (by kernel_rfl) (by kernel_rfl) (fun _ _ _ h => h) (Or.inl ⟨by kernel_rfl, ?_⟩) (by assumption) ?_
      rotate_left
      · intro w' hSw
        go_simp
        all_goals with_reducible rfl
      simp only [Act.put]
      refine wpTill_take (i := 8) [8, 12, 13, 14, 15, 16, 17, 18, 19, 20, 21, 22, 23, 24, 25] (v := undef) rfl (by kernel_rfl) (by kernel_rfl) (by kernel_rfl) (by kernel_rfl) (fun _ _ _ h => h) (Or.inr ⟨by kernel_rfl, rfl⟩) (by assumption) ?_
      simp only [Act.put]
      refine wpTill_take (i := 9) [9, 10, 11, 12, 13, 14, 15, 16, 17, 18, 19, 20, 21, 22, 23, 24, 25] (v := undef) rfl (by kernel_rfl) (by kernel_rfl) (by kernel_rfl) (by kernel_rfl) (fun _ _ _ h => h) (Or.inr ⟨by kernel_rfl, rfl⟩) (by assumption) ?_
      simp only [Act.put]
      refine wpTill_take (i := 10) [10, 11, 12, 13, 14, 15, 16, 17, 18, 19, 20, 21, 22, 23, 24, 25] (v := undef) rfl (by kernel_rfl) (by kernel_rfl) (by kernel_rfl) (by kernel_rfl) (fun _ _ _ h => h) (Or.inr ⟨by kernel_rfl, rfl⟩) (by assumption) ?_
      simp only [Act.put]
      refine wpTill_take (i := 11) [11, 12, 13, 14, 15, 16, 17, 18, 19, 20, 21, 22, 23, 24, 25] (v := undef) rfl (by kernel_rfl) (by kernel_rfl) (by kernel_rfl) (by kernel_rfl) (fun _ _ _ h => h) (Or.inr ⟨by kernel_rfl, rfl⟩) (by assumption) ?_
      simp only [Act.put]
      refine wpTill_take (i := 12) [12, 13, 14, 15, 16, 17, 18, 19, 20, 21, 22, 23, 24, 25] (v := undef) rfl (by kernel_rfl) (by kernel_rfl) (by kernel_rfl) (by kernel_rfl) (fun _ _ _ h => h) (Or.inr ⟨by kernel_rfl, rfl⟩) (by assumption) ?_
      simp only [Act.put]
      refine wpTill_take (i := 13) [13, 14, 15, 16, 17, 18, 19, 20, 21, 22, 23, 24, 25] (v := undef) rfl (by kernel_rfl) (by kernel_rfl) (by kernel_rfl) (by kernel_rfl) (fun _ _ _ h => h) (Or.inr ⟨by kernel_rfl, rfl⟩) (by assumption) ?_
      simp only [Act.put]
      refine wpTill_take (i := 14) [14, 15, 16, 17, 18, 19, 20, 21, 22, 23, 24, 25] (v := ?_) rfl (by kernel_rfl) (by kernel_rfl) (by kernel_rfl) (by kernel_rfl) (fun _ _ _ h => h) (Or.inl ⟨by kernel_rfl, ?_⟩) (by assumption) ?_
      rotate_left
      · intro w' hSw
        go_simp
        all_goals with_reducible rfl
      simp only [Act.put]
      refine wpTill_take (i := 15) [15, 16, 17, 18, 19, 20, 21, 22, 23, 24, 25] (v := ?_) rfl (by kernel_rfl) (by kernel_rfl) (by kernel_rfl) (by kernel_rfl) (fun _ _ _ h => h) (Or.inl ⟨by kernel_rfl, ?_⟩) (by assumption) ?_
      rotate_left
      · intro w' hSw
        go_simp
        all_goals with_reducible rfl
      simp only [Act.put]
      refine wpTill_take (i := 16) [16, 17, 18, 19, 20, 21, 22, 23, 24, 25] (v := ?_) rfl (by kernel_rfl) (by kernel_rfl) (by kernel_rfl) (by kernel_rfl) (fun _ _ _ h => h) (Or.inl ⟨by kernel_rfl, ?_⟩) (by assumption) ?_
      rotate_left
      · intro w' hSw
        go_simp
        all_goals with_reducible rfl
      simp only [Act.put]
      refine wpTill_take (i := 17) [17, 18, 19, 20, 21, 22, 23, 24, 25] (v := ?_) rfl (by kernel_rfl) (by kernel_rfl) (by kernel_rfl) (by kernel_rfl) (fun _ _ _ h => h) (Or.inl ⟨by kernel_rfl, ?_⟩) (by assumption) ?_
      rotate_left
      · intro w' hSw
        go_simp
        all_goals with_reducible rfl
      simp only [Act.put]
      refine wpTill_take (i := 18) [18, 19, 20, 21, 22, 23, 24, 25] (v := ?_) rfl (by kernel_rfl) (by kernel_rfl) (by kernel_rfl) (by kernel_rfl) (fun _ _ _ h => h) (Or.inl ⟨by kernel_rfl, ?_⟩) (by assumption) ?_
      rotate_left
      · intro w' hSw
        go_simp
        all_goals with_reducible rfl
      simp only [Act.put]
      refine wpTill_take (i := 19) [19, 20, 21, 22, 23, 24, 25] (v := ?_) rfl (by kernel_rfl) (by kernel_rfl) (by kernel_rfl) (by kernel_rfl) (fun _ _ _ h => h) (Or.inl ⟨by kernel_rfl, ?_⟩) (by assumption) ?_
      rotate_left
      · intro w' hSw
        go_simp
        all_goals with_reducible rfl
      simp only [Act.put]
      refine wpTill_take (i := 20) [20, 22, 23, 24, 25] (v := viewV V.t V.g0 V.g1 (.slice va V.ss.length vc)) rfl (by kernel_rfl) (by kernel_rfl) (by kernel_rfl) (by kernel_rfl) (fun _ _ _ h => h) (Or.inl ⟨by kernel_rfl, ?_⟩) (by assumption) ?_
      · intro w' hSw
        have e0 := d0 w' hSw
        have e1 := d1 w' hSw
        have e2 := d2 w' hSw
        have e3 := d3 w' hSw
        clear d0 d1 d2 d3 a0 a1 a2 a3 a4 a5 hSw
        go_simp
        all_goals with_reducible rfl
      simp only [Act.put]
      refine wpTill_take (i := 21) [21, 22, 23, 24, 25] (v := ?_) rfl (by kernel_rfl) (by kernel_rfl) (by kernel_rfl) (by kernel_rfl) (fun _ _ _ h => h) (Or.inl ⟨by kernel_rfl, ?_⟩) (by assumption) ?_
      rotate_left
      · intro w' hSw
        go_simp
        all_goals with_reducible rfl
      simp only [Act.put]
      refine wpTill_one (i := 22) (by kernel_rfl) rfl (fun K hK => ?_)
      go_simp
      refine (HSZ.out _ (by assumption)).mono ?_
      rintro e w5 ⟨rfl, hb5⟩
      have HS5 : Below Y.heap.size Y w5 := Below.trans (by assumption) (hb5.mono (Below.size (by assumption)))
      clear hb5
      go_wp2_with fail
      refine hK.out _ _ (fun _ => HS5) ?_
      clear hK K
      refine wpTill_take (i := 23) [23, 24, 25] (v := ?_) rfl (by kernel_rfl) (by kernel_rfl) (by kernel_rfl) (by kernel_rfl) (fun _ _ _ h => h) (Or.inl ⟨by kernel_rfl, ?_⟩) (by assumption) ?_
      rotate_left
      · intro w' hSw
        go_simp
        all_goals with_reducible rfl
      simp only [Act.put]
      refine wpTill_take (i := 24) [24, 25] (v := ?_) rfl (by kernel_rfl) (by kernel_rfl) (by kernel_rfl) (by kernel_rfl) (fun _ _ _ h => h) (Or.inl ⟨by kernel_rfl, ?_⟩) (by assumption) ?_
      rotate_left
      · intro w' hSw
        go_simp
        all_goals with_reducible rfl
      simp only [Act.put]
      refine wpTill_one (i := 25) (by kernel_rfl) rfl (fun K hK => ?_)
      go_simp
      refine hK.out _ _ (fun h => absurd rfl h) ?_
      clear hK K
      refine wpTill_done (by kernel_rfl) ?_ _
      refine NoPanic.normal ?_
      go_wp2
      go_meet
      exact ⟨rfl, HS5⟩
  case rest =>
    obtain ⟨rfl, HBc⟩ := hcut
    obtain ⟨D, rfl⟩ : ∃ D, D = wc := ⟨_, rfl⟩
    have HWc : Hid (Below W.heap.size W D) := HWY.out.trans (HBc.out.mono HWY.out.size)
    have HRc : Hid (Recs D va 10 V.ss) := HRY.out.below HBc.out
    have HVc : Hid (D.heap[w5.heap.size]? = some (.cells (viewC V.t V.g0 V.g1 (.slice va V.ss.length vc)) 115)) := by
      have h1 := (HXY.out.block w5.heap.size (Array.getElem?_eq_some_iff.1 HHX.out).1).trans HHX.out
      exact (HBc.out.block w5.heap.size (Array.getElem?_eq_some_iff.1 h1).1).trans h1
    clear a0 a1 a2 a3 a4 a5 d0 d1 d2 d3 HSM HRY HOF HFA HCC HVV HXX HHX HXY HWY HBc HRX HWX hc3
    obtain ⟨x0, x1, x2, x3, x4, _⟩ := five_cells ((HWc.out.block (w.heap.size + 1) (by rw [HSW.out]; omega)).trans H1.out)
    have hin3 := HIS.out.below HWc.out
    have HOW := hid (ownNewer_calls S.t S.g0 S.g1 S.nx ua uc S.es D hin3.un (by omega) hin3.rows)
    clear hin3
    go_wp2_with fail
    refine HOW.out.mono ?_
    rintro e w6 ⟨eo2, eco2, rfl, hro, hco, heo, hb6⟩
    have HB6 : Hid (Below D.heap.size D w6) := hb6
    have hio : InW w6 S eo2 eco2 := ⟨(fun e => absurd e heo), hco, hro, HIS.out.fr, HIS.out.born⟩
    have HV6 := hid (HVN.out w6 eo2 eco2 hio)
    clear HOW hro hco heo hb6 x0 x1 x2 x3 x4 hio HVN
    go_wp2_with fail
    obtain ⟨c, hc⟩ : ∃ c, ckN S = c := ⟨_, rfl⟩
    obtain ⟨U, hU⟩ : ∃ U, vwN S = U := ⟨_, rfl⟩
    have hc3 : c ≤ 3 := by rw [← hc]; exact checkN_le S
    have hUl : U.ss.length ≤ 20 := by rw [← hU]; exact vwN_len S HIS.out.fr
    rw [hc, hU] at HV6
    have HCC := hid hc
    have HVV := hid hU
    clear hc hU
    refine HV6.out.mono ?_
    rintro e w7 ⟨va2, vc2, rfl, hr7, hb7⟩
    obtain ⟨X2, hX2⟩ : ∃ X, w7.alloc (.cells (viewC U.t U.g0 U.g1 (.slice va2 U.ss.length vc2)) 115) = X := ⟨_, rfl⟩
    have hbX : Below w7.heap.size w7 X2 := by rw [← hX2]; exact (Below.refl _ _).alloc (Nat.le_refl _) _
    have hhX : X2.heap[w7.heap.size]? = some (.cells (viewC U.t U.g0 U.g1 (.slice va2 U.ss.length vc2)) 115) := by rw [← hX2]; exact heap_alloc_new _ _
    have HRX := hid (hr7.below hbX)
    have HB7 : Hid (Below D.heap.size D w7) := HB6.out.trans (hb7.mono HB6.out.size)
    have HcX : Hid (Below D.heap.size D X2) := HB7.out.trans (hbX.mono HB7.out.size)
    have HWX : Hid (Below W.heap.size W X2) := HWc.out.trans (HcX.out.mono HWc.out.size)
    have HHX := hid hhX
    have HXX := hid hX2
    clear hX2 hbX hhX hb7 hr7 HV6 HB6 HB7
    go_upto_region 9 with fail
    rw [HXX.out]
    obtain ⟨x0, x1, x2, x3, x4, _⟩ := five_cells ((HWX.out.block (w.heap.size + 1) (by rw [HSW.out]; omega)).trans H1.out)
    have HOF : Hid (∀ wx, Below W.heap.size W wx → Calls Try.prog 55 #[newerV S.t S.g0 S.g1 S.nx (.slice ua S.es.length uc)] wx fun e w' => ∃ p, e = .returned (.pointer (some ⟨p, 0, none⟩)) ∧ GrE wx.heap.size w' p true S ∧ Below wx.heap.size wx w') := fun wx hx => by
      have hi := HIS.out.below hx
      have := ofNewer_calls S.t S.g0 S.g1 S.nx ua uc S.es wx (by omega) hi.rows hi.un
      rw [st0_N hi.fr hi.born] at this
      exact this
    have HFA : Hid (∀ base wx p, GrE base wx p true S → Calls Try.prog 44 #[.pointer (some ⟨p, 0, none⟩)] wx fun e w' => e = .returned (.int .i64 c) ∧ Below wx.heap.size wx w') := fun base wx p hg => by
      have := fault_calls base p true S wx hg
      rw [faultN S HIS.out.fr, show checkN S.t S.g0 S.g1 S.nx S.es = c from HCC.out] at this
      exact this
    have HOX := hid (HOF.out X2 HWX.out)
    go_wp2_with fail
    refine HOX.out.mono ?_
    rintro e w8 ⟨p, rfl, hg8, hb8⟩
    have HF8 := hid (HFA.out _ w8 p hg8)
    have HX8 := hid hb8
    clear hg8 hb8 HOX x0 x1 x2 x3 x4
    go_wp2_with fail
    refine HF8.out.mono ?_
    rintro e Z ⟨rfl, hb9⟩
    have HXZ : Hid (Below X2.heap.size X2 Z) := HX8.out.trans (hb9.mono HX8.out.size)
    have HWZ : Hid (Below W.heap.size W Z) := HWX.out.trans (HXZ.out.mono HWX.out.size)
    have HcZ : Hid (Below D.heap.size D Z) := HcX.out.trans (HXZ.out.mono HcX.out.size)
    clear hb9 HX8 HF8
    go_wp2_with fail
    obtain ⟨a0, a1, a2, a3, a4⟩ := newer_held ((HWZ.out.block (w.heap.size + 1) (by rw [HSW.out]; omega)).trans H1.out)
    obtain ⟨d0, d1, d2, d3⟩ := view_held ((HXZ.out.block w7.heap.size (Array.getElem?_eq_some_iff.1 HHX.out).1).trans HHX.out)
    have HSM : Hid (∀ wx, Calls Try.prog 15 #[errV c, .int .i64 c] wx fun e w' => e = .returned (.bool true) ∧ w' = wx) := fun wx => same_true c hc3 wx
    have HRZ : Hid (Recs Z va2 10 U.ss) := HRX.out.below HXZ.out
    go_cut [110] (fun r wx => r = .bool false ∧ Hid (Below Z.heap.size Z wx))
    case first =>
      refine wp_region_noPanic ?_
      refine wp_region_till (S := fun w' : World => Below Z.heap.size Z w') 25 (by kernel_rfl) (Below.refl _ _).drew (fun hHeld => ?_)
      by_cases h0 : c = 0
      · have HOY : Hid (∀ wx, Below Z.heap.size Z wx → Calls Try.prog 55 #[newerV S.t S.g0 S.g1 S.nx (.slice ua S.es.length uc)] wx fun e w' => ∃ p, e = .returned (.pointer (some ⟨p, 0, none⟩)) ∧ GrE wx.heap.size w' p true S ∧ Below wx.heap.size wx w') := fun wx hx => HOF.out wx (HWZ.out.trans (hx.mono HWZ.out.size))
        have HVO : Hid (∀ base wx p, GrE base wx p true S → Calls Try.prog 63 #[.pointer (some ⟨p, 0, none⟩)] wx fun e w' => ∃ ya yc, e = .returned (viewV S.t S.g0 S.g1 (.slice ya (viewL S.es).length yc)) ∧ Recs w' ya 10 (viewL S.es) ∧ Below wx.heap.size wx w') := fun base wx p hg => viewOf_nw base p S wx hg h25
        have ev : U = ⟨S.t, S.g0, S.g1, viewL S.es⟩ := by
          rw [← HVV.out]
          exact if_pos (HCC.out.trans h0)
        have HSE : Hid (∀ wx (ya : Option Addr) (yc : Nat), Below Z.heap.size Z wx → Recs wx ya 10 (viewL S.es) → Calls Try.prog 62 #[viewV U.t U.g0 U.g1 (.slice va2 U.ss.length vc2), viewV S.t S.g0 S.g1 (.slice ya (viewL S.es).length yc)] wx fun e w' => e = .returned (.bool true) ∧ Below wx.heap.size wx w') := fun wx ya yc hx hy => by
          have := sameView_calls U ⟨S.t, S.g0, S.g1, viewL S.es⟩ va2 ya vc2 yc wx (HRZ.out.below hx) hy (by omega)
          rw [decide_eq_true (by rw [ev]; exact sameV_refl _)] at this
          exact this
        have hq0 : ((c : Int) == 0) = true := by rw [h0]; rfl
        have hq1 : decide (0 < c) = false := by rw [h0]; rfl
        clear ev h0 HOF
        have HOF := HOY
        clear HOY
        refine wpTill_take (i := 0) [0, 2, 3, 4, 5, 6, 7, 8, 9, 10, 11, 12, 13, 14, 15, 16, 17, 18, 19, 20, 21, 22, 23, 24, 25] (v := ?_) rfl (by kernel_rfl) (by kernel_rfl) (by kernel_rfl) (by kernel_rfl) (fun _ _ _ h => h) (Or.inl ⟨by kernel_rfl, ?_⟩) (by assumption) ?_
        rotate_left
        · intro w' hSw
          go_simp
          all_goals with_reducible rfl
        simp only [Act.put]
        refine wpTill_take (i := 1) [1, 2, 3, 4, 5, 6, 7, 8, 9, 10, 11, 12, 13, 14, 15, 16, 17, 18, 19, 20, 21, 22, 23, 24, 25] (v := ?_) rfl (by kernel_rfl) (by kernel_rfl) (by kernel_rfl) (by kernel_rfl) (fun _ _ _ h => h) (Or.inl ⟨by kernel_rfl, ?_⟩) (by assumption) ?_
        rotate_left
        · intro w' hSw
          go_simp
          all_goals with_reducible rfl
        simp only [Act.put]
        refine wpTill_one (i := 2) (by kernel_rfl) rfl (fun K hK => ?_)
        go_simp
        refine (HSM.out _).mono ?_
        rintro e w2 ⟨rfl, rfl⟩
        go_wp2_with fail
        refine hK.out _ _ (fun _ => by assumption) ?_
        clear hK K
        refine wpTill_take (i := 3) [3, 4, 5, 6, 7, 8, 9, 10, 11, 12, 13, 14, 15, 16, 17, 18, 19, 20, 21, 22, 23, 24, 25] (v := ?_) rfl (by kernel_rfl) (by kernel_rfl) (by kernel_rfl) (by kernel_rfl) (fun _ _ _ h => h) (Or.inl ⟨by kernel_rfl, ?_⟩) (by assumption) ?_
        rotate_left
        · intro w' hSw
          go_simp
          all_goals with_reducible rfl
        simp only [Act.put]
        refine wpTill_take (i := 4) [4, 5, 6, 7, 8, 9, 10, 11, 12, 13, 14, 15, 16, 17, 18, 19, 20, 21, 22, 23, 24, 25] (v := ?_) rfl (by kernel_rfl) (by kernel_rfl) (by kernel_rfl) (by kernel_rfl) (fun _ _ _ h => h) (Or.inl ⟨by kernel_rfl, ?_⟩) (by assumption) ?_
        rotate_left
        · intro w' hSw
          go_simp
          all_goals with_reducible rfl
        simp only [Act.put]
        refine wpTill_take (i := 5) [5, 6, 7, 8, 9, 10, 11, 12, 13, 14, 15, 16, 17, 18, 19, 20, 21, 22, 23, 24, 25] (v := ?_) rfl (by kernel_rfl) (by kernel_rfl) (by kernel_rfl) (by kernel_rfl) (fun _ _ _ h => h) (Or.inl ⟨by kernel_rfl, ?_⟩) (by assumption) ?_
        rotate_left
        · intro w' hSw
          go_simp
          all_goals with_reducible rfl
        simp only [Act.put]
        refine wpTill_take (i := 6) [6, 7, 8, 9, 10, 11, 12, 13, 14, 15, 16, 17, 18, 19, 20, 21, 22, 23, 24, 25] (v := ?_) rfl (by kernel_rfl) (by kernel_rfl) (by kernel_rfl) (by kernel_rfl) (fun _ _ _ h => h) (Or.inl ⟨by kernel_rfl, ?_⟩) (by assumption) ?_
        rotate_left
        · intro w' hSw
          go_simp
          all_goals with_reducible rfl
        simp only [Act.put]
        refine wpTill_take (i := 7) [7, 8, 9, 10, 11, 12, 13, 14, 15, 16, 17, 18, 19, 20, 21, 22, 23, 24, 25] (v := ?_) rfl (by kernel_rfl) (by kernel_rfl) (by kernel_rfl) (by kernel_rfl) (fun _ _ _ h => h) (Or.inl ⟨by kernel_rfl, ?_⟩) (by assumption) ?_
        rotate_left
        · intro w' hSw
          go_simp
          all_goals with_reducible rfl
        simp only [Act.put]
        refine wpTill_take (i := 8) [8, 12, 13, 14, 15, 16, 17, 18, 19, 20, 21, 22, 23, 24, 25] (v := viewV U.t U.g0 U.g1 (.slice va2 U.ss.length vc2)) rfl (by kernel_rfl) (by kernel_rfl) (by kernel_rfl) (by kernel_rfl) (fun _ _ _ h => h) (Or.inl ⟨by kernel_rfl, ?_⟩) (by assumption) ?_
        · intro w' hSw
          have e0 := d0 w' hSw
          have e1 := d1 w' hSw
          have e2 := d2 w' hSw
          have e3 := d3 w' hSw
          clear d0 d1 d2 d3 a0 a1 a2 a3 a4 hSw
          go_simp
          all_goals with_reducible rfl
        simp only [Act.put]
        refine wpTill_take (i := 9) [9, 10, 11, 12, 13, 14, 15, 16, 17, 18, 19, 20, 21, 22, 23, 24, 25] (v := newerV S.t S.g0 S.g1 S.nx (.slice ua S.es.length uc)) rfl (by kernel_rfl) (by kernel_rfl) (by kernel_rfl) (by kernel_rfl) (fun _ _ _ h => h) (Or.inl ⟨by kernel_rfl, ?_⟩) (by assumption) ?_
        · intro w' hSw
          have e0 := a0 w' hSw
          have e1 := a1 w' hSw
          have e2 := a2 w' hSw
          have e3 := a3 w' hSw
          have e4 := a4 w' hSw
          clear d0 d1 d2 d3 a0 a1 a2 a3 a4 hSw
          go_simp
          all_goals with_reducible rfl
        simp only [Act.put]
        refine wpTill_one (i := 10) (by kernel_rfl) rfl (fun K hK => ?_)
        go_simp
        refine (HOF.out _ (by assumption)).mono ?_
        rintro e w3 ⟨p, rfl, hg3, hb3⟩
        have HS3 : Below Z.heap.size Z w3 := Below.trans (by assumption) (hb3.mono (Below.size (by assumption)))
        have HG3 := hid hg3
        clear hb3 hg3
        go_wp2_with fail
        refine hK.out _ _ (fun _ => HS3) ?_
        clear hK K
        refine wpTill_one (i := 11) (by kernel_rfl) rfl (fun K hK => ?_)
        go_simp
        refine (HVO.out _ _ p HG3.out).mono ?_
        rintro e w4 ⟨ya, yc, rfl, hr4, hb4⟩
        have HS4 : Below Z.heap.size Z w4 := HS3.trans (hb4.mono HS3.size)
        have HR4 := hid hr4
        clear hb4 hr4
        go_wp2_with fail
        refine hK.out _ _ (fun _ => HS4) ?_
        clear hK K
        refine wpTill_one (i := 12) (by kernel_rfl) rfl (fun K hK => ?_)
        go_simp
        refine (HSE.out _ ya yc HS4 HR4.out).mono ?_
        rintro e w5 ⟨rfl, hb5⟩
        have HS5 : Below Z.heap.size Z w5 := HS4.trans (hb5.mono HS4.size)
        clear hb5
        go_wp2_with fail
        refine hK.out _ _ (fun _ => HS5) ?_
        clear hK K
        refine wpTill_take (i := 13) [13, 14, 15, 16, 17, 18, 19, 20, 21, 22, 23, 24, 25] (v := ?_) rfl (by kernel_rfl) (by kernel_rfl) (by kernel_rfl) (by kernel_rfl) (fun _ _ _ h => h) (Or.inl ⟨by kernel_rfl, ?_⟩) (by assumption) ?_
        rotate_left
        · intro w' hSw
          go_simp
          all_goals with_reducible rfl
        simp only [Act.put]
        refine wpTill_take (i := 14) [14, 15, 16, 17, 18, 19, 20, 21, 22, 23, 24, 25] (v := ?_) rfl (by kernel_rfl) (by kernel_rfl) (by kernel_rfl) (by kernel_rfl) (fun _ _ _ h => h) (Or.inl ⟨by kernel_rfl, ?_⟩) (by assumption) ?_
        rotate_left
        · intro w' hSw
          go_simp
          all_goals with_reducible rfl
        simp only [Act.put]
        refine wpTill_take (i := 15) [15, 16, 17, 18, 19, 20, 21, 22, 23, 24, 25] (v := ?_) rfl (by kernel_rfl) (by kernel_rfl) (by kernel_rfl) (by kernel_rfl) (fun _ _ _ h => h) (Or.inl ⟨by kernel_rfl, ?_⟩) (by assumption) ?_
        rotate_left
        · intro w' hSw
          go_simp
          all_goals with_reducible rfl
        simp only [Act.put]
        refine wpTill_take (i := 16) [16, 17, 18, 19, 20, 21, 22, 23, 24, 25] (v := ?_) rfl (by kernel_rfl) (by kernel_rfl) (by kernel_rfl) (by kernel_rfl) (fun _ _ _ h => h) (Or.inl ⟨by kernel_rfl, ?_⟩) (by assumption) ?_
        rotate_left
        · intro w' hSw
          go_simp
          all_goals with_reducible rfl
        simp only [Act.put]
        refine wpTill_take (i := 17) [17, 18, 19, 20, 21, 22, 23, 24, 25] (v := ?_) rfl (by kernel_rfl) (by kernel_rfl) (by kernel_rfl) (by kernel_rfl) (fun _ _ _ h => h) (Or.inl ⟨by kernel_rfl, ?_⟩) (by assumption) ?_
        rotate_left
        · intro w' hSw
          go_simp
          all_goals with_reducible rfl
        simp only [Act.put]
        refine wpTill_take (i := 18) [18, 19, 20, 21, 22, 23, 24, 25] (v := ?_) rfl (by kernel_rfl) (by kernel_rfl) (by kernel_rfl) (by kernel_rfl) (fun _ _ _ h => h) (Or.inl ⟨by kernel_rfl, ?_⟩) (by assumption) ?_
        rotate_left
        · intro w' hSw
          go_simp
          all_goals with_reducible rfl
        simp only [Act.put]
        refine wpTill_take (i := 19) [19, 20, 21, 22, 23, 24, 25] (v := ?_) rfl (by kernel_rfl) (by kernel_rfl) (by kernel_rfl) (by kernel_rfl) (fun _ _ _ h => h) (Or.inl ⟨by kernel_rfl, ?_⟩) (by assumption) ?_
        rotate_left
        · intro w' hSw
          go_simp
          all_goals with_reducible rfl
        simp only [Act.put]
        refine wpTill_take (i := 20) [20, 22, 23, 24, 25] (v := undef) rfl (by kernel_rfl) (by kernel_rfl) (by kernel_rfl) (by kernel_rfl) (fun _ _ _ h => h) (Or.inr ⟨by kernel_rfl, rfl⟩) (by assumption) ?_
        simp only [Act.put]
        refine wpTill_take (i := 21) [21, 22, 23, 24, 25] (v := undef) rfl (by kernel_rfl) (by kernel_rfl) (by kernel_rfl) (by kernel_rfl) (fun _ _ _ h => h) (Or.inr ⟨by kernel_rfl, rfl⟩) (by assumption) ?_
        simp only [Act.put]
        refine wpTill_take (i := 22) [22, 23, 24, 25] (v := undef) rfl (by kernel_rfl) (by kernel_rfl) (by kernel_rfl) (by kernel_rfl) (fun _ _ _ h => h) (Or.inr ⟨by kernel_rfl, rfl⟩) (by assumption) ?_
        simp only [Act.put]
        refine wpTill_take (i := 23) [23, 24, 25] (v := undef) rfl (by kernel_rfl) (by kernel_rfl) (by kernel_rfl) (by kernel_rfl) (fun _ _ _ h => h) (Or.inr ⟨by kernel_rfl, rfl⟩) (by assumption) ?_
        simp only [Act.put]
        refine wpTill_take (i := 24) [24, 25] (v := ?_) rfl (by kernel_rfl) (by kernel_rfl) (by kernel_rfl) (by kernel_rfl) (fun _ _ _ h => h) (Or.inl ⟨by kernel_rfl, ?_⟩) (by assumption) ?_
        rotate_left
        · intro w' hSw
          go_simp
          all_goals with_reducible rfl
        simp only [Act.put]
        refine wpTill_one (i := 25) (by kernel_rfl) rfl (fun K hK => ?_)
        go_simp
        refine hK.out _ _ (fun h => absurd rfl h) ?_
        clear hK K
        refine wpTill_done (by kernel_rfl) ?_ _
        refine NoPanic.normal ?_
        go_wp2
        go_meet
        exact ⟨rfl, HS5⟩
      · have ev : U = zeroW := by
          rw [← HVV.out]
          exact if_neg (fun h => h0 (HCC.out.symm.trans h))
        have HSZ : Hid (∀ wx, Below Z.heap.size Z wx → Calls Try.prog 62 #[viewV U.t U.g0 U.g1 (.slice va2 U.ss.length vc2), viewV 0 0 0 (.slice none 0 0)] wx fun e w' => e = .returned (.bool true) ∧ Below wx.heap.size wx w') := fun wx hx => by
          have := sameView_calls U zeroW va2 none vc2 0 wx (HRZ.out.below hx) (Or.inl rfl) (by omega)
          rw [decide_eq_true (by rw [ev]; exact sameV_refl _)] at this
          exact this
        have hq0 : ((c : Int) == 0) = false := by rw [beq_eq_false_iff_ne]; omega
        have hq1 : 0 < c := by omega
        clear ev h0 HOF
        refine wpTill_take (i := 0) [0, 2, 3, 4, 5, 6, 7, 8, 9, 10, 11, 12, 13, 14, 15, 16, 17, 18, 19, 20, 21, 22, 23, 24, 25] (v := ?_) rfl (by kernel_rfl) (by kernel_rfl) (by kernel_rfl) (by kernel_rfl) (fun _ _ _ h => h) (Or.inl ⟨by kernel_rfl, ?_⟩) (by assumption) ?_
        rotate_left
        · intro w' hSw
          go_simp
          all_goals with_reducible rfl
        simp only [Act.put]
        refine wpTill_take (i := 1) [1, 2, 3, 4, 5, 6, 7, 8, 9, 10, 11, 12, 13, 14, 15, 16, 17, 18, 19, 20, 21, 22, 23, 24, 25] (v := ?_) rfl (by kernel_rfl) (by kernel_rfl) (by kernel_rfl) (by kernel_rfl) (fun _ _ _ h => h) (Or.inl ⟨by kernel_rfl, ?_⟩) (by assumption) ?_
        rotate_left
        · intro w' hSw
          go_simp
          all_goals with_reducible rfl
        simp only [Act.put]
        refine wpTill_one (i := 2) (by kernel_rfl) rfl (fun K hK => ?_)
        go_simp
        refine (HSM.out _).mono ?_
        rintro e w2 ⟨rfl, rfl⟩
        go_wp2_with fail
        refine hK.out _ _ (fun _ => by assumption) ?_
        clear hK K
        refine wpTill_take (i := 3) [3, 4, 5, 6, 7, 8, 9, 10, 11, 12, 13, 14, 15, 16, 17, 18, 19, 20, 21, 22, 23, 24, 25] (v := ?_) rfl (by kernel_rfl) (by kernel_rfl) (by kernel_rfl) (by kernel_rfl) (fun _ _ _ h => h) (Or.inl ⟨by kernel_rfl, ?_⟩) (by assumption) ?_
        rotate_left
        · intro w' hSw
          go_simp
          all_goals with_reducible rfl
        simp only [Act.put]
        refine wpTill_take (i := 4) [4, 5, 6, 7, 8, 9, 10, 11, 12, 13, 14, 15, 16, 17, 18, 19, 20, 21, 22, 23, 24, 25] (v := ?_) rfl (by kernel_rfl) (by kernel_rfl) (by kernel_rfl) (by kernel_rfl) (fun _ _ _ h => h) (Or.inl ⟨by kernel_rfl, ?_⟩) (by assumption) ?_
        rotate_left
        · intro w' hSw
          go_simp
          all_goals with_reducible rfl
        simp only [Act.put]
        refine wpTill_take (i := 5) [5, 6, 7, 8, 9, 10, 11, 12, 13, 14, 15, 16, 17, 18, 19, 20, 21, 22, 23, 24, 25] (v := ?_) rfl (by kernel_rfl) (by kernel_rfl) (by kernel_rfl) (by kernel_rfl) (fun _ _ _ h => h) (Or.inl ⟨by kernel_rfl, ?_⟩) (by assumption) ?_
        rotate_left
        · intro w' hSw
          go_simp
          all_goals with_reducible rfl
        simp only [Act.put]
        refine wpTill_take (i := 6) [6, 7, 8, 9, 10, 11, 12, 13, 14, 15, 16, 17, 18, 19, 20, 21, 22, 23, 24, 25] (v := ?_) rfl (by kernel_rfl) (by kernel_rfl) (by kernel_rfl) (by kernel_rfl) (fun _ _ _ h => h) (Or.inl ⟨by kernel_rfl, ?_⟩) (by assumption) ?_
        rotate_left
        · intro w' hSw
          go_simp
          all_goals with_reducible rfl
        simp only [Act.put]
        refine wpTill_take (i := 7) [7, 8, 9, 10, 11, 12, 13, 14, 15, 16, 17, 18, 19, 20, 21, 22, 23, 24, 25] (v := ?_) rfl (by kernel_rfl) (by kernel_rfl) (by kernel_rfl) (by kernel_rfl) (fun _ _ _ h => h) (Or.inl ⟨by kernel_rfl, ?_⟩) (by assumption) ?_
        rotate_left
        · intro w' hSw
          go_simp
          all_goals with_reducible rfl
        simp only [Act.put]
        refine wpTill_take (i := 8) [8, 12, 13, 14, 15, 16, 17, 18, 19, 20, 21, 22, 23, 24, 25] (v := undef) rfl (by kernel_rfl) (by kernel_rfl) (by kernel_rfl) (by kernel_rfl) (fun _ _ _ h => h) (Or.inr ⟨by kernel_rfl, rfl⟩) (by assumption) ?_
        simp only [Act.put]
        refine wpTill_take (i := 9) [9, 10, 11, 12, 13, 14, 15, 16, 17, 18, 19, 20, 21, 22, 23, 24, 25] (v := undef) rfl (by kernel_rfl) (by kernel_rfl) (by kernel_rfl) (by kernel_rfl) (fun _ _ _ h => h) (Or.inr ⟨by kernel_rfl, rfl⟩) (by assumption) ?_
        simp only [Act.put]
        refine wpTill_take (i := 10) [10, 11, 12, 13, 14, 15, 16, 17, 18, 19, 20, 21, 22, 23, 24, 25] (v := undef) rfl (by kernel_rfl) (by kernel_rfl) (by kernel_rfl) (by kernel_rfl) (fun _ _ _ h => h) (Or.inr ⟨by kernel_rfl, rfl⟩) (by assumption) ?_
        simp only [Act.put]
        refine wpTill_take (i := 11) [11, 12, 13, 14, 15, 16, 17, 18, 19, 20, 21, 22, 23, 24, 25] (v := undef) rfl (by kernel_rfl) (by kernel_rfl) (by kernel_rfl) (by kernel_rfl) (fun _ _ _ h => h) (Or.inr ⟨by kernel_rfl, rfl⟩) (by assumption) ?_
        simp only [Act.put]
        refine wpTill_take (i := 12) [12, 13, 14, 15, 16, 17, 18, 19, 20, 21, 22, 23, 24, 25] (v := undef) rfl (by kernel_rfl) (by kernel_rfl) (by kernel_rfl) (by kernel_rfl) (fun _ _ _ h => h) (Or.inr ⟨by kernel_rfl, rfl⟩) (by assumption) ?_
        simp only [Act.put]
        refine wpTill_take (i := 13) [13, 14, 15, 16, 17, 18, 19, 20, 21, 22, 23, 24, 25] (v := undef) rfl (by kernel_rfl) (by kernel_rfl) (by kernel_rfl) (by kernel_rfl) (fun _ _ _ h => h) (Or.inr ⟨by kernel_rfl, rfl⟩) (by assumption) ?_
        simp only [Act.put]
        refine wpTill_take (i := 14) [14, 15, 16, 17, 18, 19, 20, 21, 22, 23, 24, 25] (v := ?_) rfl (by kernel_rfl) (by kernel_rfl) (by kernel_rfl) (by kernel_rfl) (fun _ _ _ h => h) (Or.inl ⟨by kernel_rfl, ?_⟩) (by assumption) ?_
        rotate_left
        · intro w' hSw
          go_simp
          all_goals with_reducible rfl
        simp only [Act.put]
        refine wpTill_take (i := 15) [15, 16, 17, 18, 19, 20, 21, 22, 23, 24, 25] (v := ?_) rfl (by kernel_rfl) (by kernel_rfl) (by kernel_rfl) (by kernel_rfl) (fun _ _ _ h => h) (Or.inl ⟨by kernel_rfl, ?_⟩) (by assumption) ?_
        rotate_left
        · intro w' hSw
          go_simp
          all_goals with_reducible rfl
        simp only [Act.put]
        refine wpTill_take (i := 16) [16, 17, 18, 19, 20, 21, 22, 23, 24, 25] (v := ?_) rfl (by kernel_rfl) (by kernel_rfl) (by kernel_rfl) (by kernel_rfl) (fun _ _ _ h => h) (Or.inl ⟨by kernel_rfl, ?_⟩) (by assumption) ?_
        rotate_left
        · intro w' hSw
          go_simp
          all_goals with_reducible rfl
        simp only [Act.put]
        refine wpTill_take (i := 17) [17, 18, 19, 20, 21, 22, 23, 24, 25] (v := ?_) rfl (by kernel_rfl) (by kernel_rfl) (by kernel_rfl) (by kernel_rfl) (fun _ _ _ h => h) (Or.inl ⟨by kernel_rfl, ?_⟩) (by assumption) ?_
        rotate_left
        · intro w' hSw
          go_simp
          all_goals with_reducible rfl
        simp only [Act.put]
        refine wpTill_take (i := 18) [18, 19, 20, 21, 22, 23, 24, 25] (v := ?_) rfl (by kernel_rfl) (by kernel_rfl) (by kernel_rfl) (by kernel_rfl) (fun _ _ _ h => h) (Or.inl ⟨by kernel_rfl, ?_⟩) (by assumption) ?_
        rotate_left
        · intro w' hSw
          go_simp
          all_goals with_reducible rfl
        simp only [Act.put]
        refine wpTill_take (i := 19) [19, 20, 21, 22, 23, 24, 25] (v := ?_) rfl (by kernel_rfl) (by kernel_rfl) (by kernel_rfl) (by kernel_rfl) (fun _ _ _ h => h) (Or.inl ⟨by kernel_rfl, ?_⟩) (by assumption) ?_
        rotate_left
        · intro w' hSw
          go_simp
          all_goals with_reducible rfl
        simp only [Act.put]
        refine wpTill_take (i := 20) [20, 22, 23, 24, 25] (v := viewV U.t U.g0 U.g1 (.slice va2 U.ss.length vc2)) rfl (by kernel_rfl) (by kernel_rfl) (by kernel_rfl) (by kernel_rfl) (fun _ _ _ h => h) (Or.inl ⟨by kernel_rfl, ?_⟩) (by assumption) ?_
        · intro w' hSw
          have e0 := d0 w' hSw
          have e1 := d1 w' hSw
          have e2 := d2 w' hSw
          have e3 := d3 w' hSw
          clear d0 d1 d2 d3 a0 a1 a2 a3 a4 hSw
          go_simp
          all_goals with_reducible rfl
        simp only [Act.put]
        refine wpTill_take (i := 21) [21, 22, 23, 24, 25] (v := ?_) rfl (by kernel_rfl) (by kernel_rfl) (by kernel_rfl) (by kernel_rfl) (fun _ _ _ h => h) (Or.inl ⟨by kernel_rfl, ?_⟩) (by assumption) ?_
        rotate_left
        · intro w' hSw
          go_simp
          all_goals with_reducible rfl
        simp only [Act.put]
        refine wpTill_one (i := 22) (by kernel_rfl) rfl (fun K hK => ?_)
        go_simp
        refine (HSZ.out _ (by assumption)).mono ?_
        rintro e w5 ⟨rfl, hb5⟩
        have HS5 : Below Z.heap.size Z w5 := Below.trans (by assumption) (hb5.mono (Below.size (by assumption)))
        clear hb5
        go_wp2_with fail
        refine hK.out _ _ (fun _ => HS5) ?_
        clear hK K
        refine wpTill_take (i := 23) [23, 24, 25] (v := ?_) rfl (by kernel_rfl) (by kernel_rfl) (by kernel_rfl) (by kernel_rfl) (fun _ _ _ h => h) (Or.inl ⟨by kernel_rfl, ?_⟩) (by assumption) ?_
        rotate_left
        · intro w' hSw
          go_simp
          all_goals with_reducible rfl
        simp only [Act.put]
        refine wpTill_take (i := 24) [24, 25] (v := ?_) rfl (by kernel_rfl) (by kernel_rfl) (by kernel_rfl) (by kernel_rfl) (fun _ _ _ h => h) (Or.inl ⟨by kernel_rfl, ?_⟩) (by assumption) ?_
        rotate_left
        · intro w' hSw
          go_simp
          all_goals with_reducible rfl
        simp only [Act.put]
        refine wpTill_one (i := 25) (by kernel_rfl) rfl (fun K hK => ?_)
        go_simp
        refine hK.out _ _ (fun h => absurd rfl h) ?_
        clear hK K
        refine wpTill_done (by kernel_rfl) ?_ _
        refine NoPanic.normal ?_
        go_wp2
        go_meet
        exact ⟨rfl, HS5⟩
    case rest =>
      obtain ⟨rfl, HBd⟩ := hcut
      obtain ⟨Q, rfl⟩ : ∃ Q, Q = wc := ⟨_, rfl⟩
      have HDQ : Hid (Below D.heap.size D Q) := HcZ.out.trans (HBd.out.mono HcZ.out.size)
      have HWQ : Hid (Below W.heap.size W Q) := HWZ.out.trans (HBd.out.mono HWZ.out.size)
      clear a0 a1 a2 a3 a4 d0 d1 d2 d3
      obtain ⟨m0, m1, m2, m3⟩ := view_held ((HWQ.out.block (w.heap.size + 2) (by rw [HSW.out]; omega)).trans H2.out)
      obtain ⟨n0, n1, n2, n3⟩ := view_held ((HWQ.out.block (w.heap.size + 3) (by rw [HSW.out]; omega)).trans H3.out)
      obtain ⟨d0, d1, d2, d3⟩ := view_held ((HDQ.out.block w5.heap.size (Array.getElem?_eq_some_iff.1 HVc.out).1).trans HVc.out)
      obtain ⟨q, hq⟩ : ∃ q, decide (sameV a b) = q := ⟨_, rfl⟩
      obtain ⟨z1, hz1⟩ : ∃ z, markZ a.t a.g0 a.g1 a.ss = z := ⟨_, rfl⟩
      obtain ⟨z2, hz2⟩ : ∃ z, markZ V.t V.g0 V.g1 V.ss = z := ⟨_, rfl⟩
      have hwx : ∀ wx, Below Q.heap.size Q wx → Below W.heap.size W wx := fun wx hx => HWQ.out.trans (hx.mono HWQ.out.size)
      have HPS : Hid (∀ wx, Below Q.heap.size Q wx → Calls Try.prog 65 #[viewV a.t a.g0 a.g1 (.slice aa a.ss.length ac), viewV b.t b.g0 b.g1 (.slice ba b.ss.length bc)] wx fun e w' => e = .returned (.bool q) ∧ Below wx.heap.size wx w') := fun wx hx => by
        rw [← hq]
        exact sameP_calls a b aa ba ac bc wx (HA.out.below (hwx wx hx)) (HB.out.below (hwx wx hx)) (by omega)
      have HRS : Hid (∀ wx, Below Q.heap.size Q wx → Calls Try.prog 62 #[viewV a.t a.g0 a.g1 (.slice aa a.ss.length ac), viewV b.t b.g0 b.g1 (.slice ba b.ss.length bc)] wx fun e w' => e = .returned (.bool q) ∧ Below wx.heap.size wx w') := fun wx hx => by
        rw [← hq]
        exact sameView_calls a b aa ba ac bc wx (HA.out.below (hwx wx hx)) (HB.out.below (hwx wx hx)) (by omega)
      have HPA : Hid (∀ wx, Below Q.heap.size Q wx → Calls Try.prog 65 #[viewV a.t a.g0 a.g1 (.slice aa a.ss.length ac), viewV a.t a.g0 a.g1 (.slice aa a.ss.length ac)] wx fun e w' => e = .returned (.bool true) ∧ Below wx.heap.size wx w') := fun wx hx => by
        have := sameP_calls a a aa aa ac ac wx (HA.out.below (hwx wx hx)) (HA.out.below (hwx wx hx)) (by omega)
        rw [decide_eq_true (sameV_refl a)] at this
        exact this
      have HM1 : Hid (∀ wx, Below Q.heap.size Q wx → Calls Try.prog 66 #[viewV a.t a.g0 a.g1 (.slice aa a.ss.length ac)] wx fun e w' => e = .returned (.int .u64 z1) ∧ Below wx.heap.size wx w') := fun wx hx => by
        rw [← hz1]
        exact mark_calls a.t a.g0 a.g1 a.ss aa ac wx (HA.out.below (hwx wx hx)) (by omega)
      have HM2 : Hid (∀ wx, Below Q.heap.size Q wx → Calls Try.prog 67 #[viewV a.t a.g0 a.g1 (.slice aa a.ss.length ac)] wx fun e w' => e = .returned (.int .u64 z1) ∧ Below wx.heap.size wx w') := fun wx hx => by
        rw [← hz1]
        exact markOf_calls a.t a.g0 a.g1 a.ss aa ac wx (HA.out.below (hwx wx hx)) (by omega)
      have HM3 : Hid (∀ wx, Below Q.heap.size Q wx → Calls Try.prog 66 #[viewV V.t V.g0 V.g1 (.slice va V.ss.length vc)] wx fun e w' => e = .returned (.int .u64 z2) ∧ Below wx.heap.size wx w') := fun wx hx => by
        rw [← hz2]
        exact mark_calls V.t V.g0 V.g1 V.ss va vc wx ((HRc.out.below HDQ.out).below hx) (by omega)
      have HM4 : Hid (∀ wx, Below Q.heap.size Q wx → Calls Try.prog 67 #[viewV V.t V.g0 V.g1 (.slice va V.ss.length vc)] wx fun e w' => e = .returned (.int .u64 z2) ∧ Below wx.heap.size wx w') := fun wx hx => by
        rw [← hz2]
        exact markOf_calls V.t V.g0 V.g1 V.ss va vc wx ((HRc.out.below HDQ.out).below hx) (by omega)
      have hqq : (q == q) = true := by cases q <;> rfl
      have HFQ : Hid (Below w.heap.size w Q) := HBW.out.trans (HWQ.out.mono (by rw [HSW.out]; omega))
      clear hq hz1 hz2 hwx HDQ HWQ HBd HSM HRZ HOF HFA HCC HVV HXX HHX HXZ HWZ HcZ HcX HWX HRX HVc HRc hc3
      go_wp2_with fail
      refine wp_region_noPanic ?_
      refine wp_region_till (S := fun w' : World => Below Q.heap.size Q w') 26 (by kernel_rfl) (Below.refl _ _).drew (fun hHeld => ?_)
      refine wpTill_take (i := 0) [0, 2, 5, 6, 7, 8, 9, 10, 11, 12, 13, 14, 15, 16, 17, 18, 19, 20, 21, 22, 23, 24, 25, 26] (v := viewV a.t a.g0 a.g1 (.slice aa a.ss.length ac)) rfl (by kernel_rfl) (by kernel_rfl) (by kernel_rfl) (by kernel_rfl) (fun _ _ _ h => h) (Or.inl ⟨by kernel_rfl, ?_⟩) (by assumption) ?_
      · intro w' hSw
        have e0 := m0 w' hSw
        have e1 := m1 w' hSw
        have e2 := m2 w' hSw
        have e3 := m3 w' hSw
        clear m0 m1 m2 m3 n0 n1 n2 n3 d0 d1 d2 d3 hSw
        go_simp
        all_goals with_reducible rfl
      simp only [Act.put]
      refine wpTill_take (i := 1) [1, 2, 5, 6, 7, 8, 9, 10, 11, 12, 13, 14, 15, 16, 17, 18, 19, 20, 21, 22, 23, 24, 25, 26] (v := viewV b.t b.g0 b.g1 (.slice ba b.ss.length bc)) rfl (by kernel_rfl) (by kernel_rfl) (by kernel_rfl) (by kernel_rfl) (fun _ _ _ h => h) (Or.inl ⟨by kernel_rfl, ?_⟩) (by assumption) ?_
      · intro w' hSw
        have e0 := n0 w' hSw
        have e1 := n1 w' hSw
        have e2 := n2 w' hSw
        have e3 := n3 w' hSw
        clear m0 m1 m2 m3 n0 n1 n2 n3 d0 d1 d2 d3 hSw
        go_simp
        all_goals with_reducible rfl
      simp only [Act.put]
      refine wpTill_take (i := 3) [3, 5, 6, 7, 8, 9, 10, 11, 12, 13, 14, 15, 16, 17, 18, 19, 20, 21, 22, 23, 24, 25, 26] (v := viewV a.t a.g0 a.g1 (.slice aa a.ss.length ac)) rfl (by kernel_rfl) (by kernel_rfl) (by kernel_rfl) (by kernel_rfl) (fun _ _ _ h => h) (Or.inl ⟨by kernel_rfl, ?_⟩) (by assumption) ?_
      · intro w' hSw
        have e0 := m0 w' hSw
        have e1 := m1 w' hSw
        have e2 := m2 w' hSw
        have e3 := m3 w' hSw
        clear m0 m1 m2 m3 n0 n1 n2 n3 d0 d1 d2 d3 hSw
        go_simp
        all_goals with_reducible rfl
      simp only [Act.put]
      refine wpTill_take (i := 4) [4, 5, 6, 7, 8, 9, 10, 11, 12, 13, 14, 15, 16, 17, 18, 19, 20, 21, 22, 23, 24, 25, 26] (v := viewV b.t b.g0 b.g1 (.slice ba b.ss.length bc)) rfl (by kernel_rfl) (by kernel_rfl) (by kernel_rfl) (by kernel_rfl) (fun _ _ _ h => h) (Or.inl ⟨by kernel_rfl, ?_⟩) (by assumption) ?_
      · intro w' hSw
        have e0 := n0 w' hSw
        have e1 := n1 w' hSw
        have e2 := n2 w' hSw
        have e3 := n3 w' hSw
        clear m0 m1 m2 m3 n0 n1 n2 n3 d0 d1 d2 d3 hSw
        go_simp
        all_goals with_reducible rfl
      simp only [Act.put]
      refine wpTill_one (i := 2) (by kernel_rfl) rfl (fun K hK => ?_)
      go_simp
      refine (HPS.out _ (by assumption)).mono ?_
      rintro e w2 ⟨rfl, hb2⟩
      have HS2 : Below Q.heap.size Q w2 := Below.trans (by assumption) (hb2.mono (Below.size (by assumption)))
      clear hb2
      go_wp2_with fail
      refine hK.out _ _ (fun _ => HS2) ?_
      clear hK K
      refine wpTill_one (i := 5) (by kernel_rfl) rfl (fun K hK => ?_)
      go_simp
      refine (HRS.out _ (by assumption)).mono ?_
      rintro e w3 ⟨rfl, hb3⟩
      have HS3 : Below Q.heap.size Q w3 := HS2.trans (hb3.mono HS2.size)
      clear hb3
      go_wp2_with fail
      refine hK.out _ _ (fun _ => HS3) ?_
      clear hK K
      refine wpTill_take (i := 6) [6, 7, 8, 9, 10, 11, 12, 13, 14, 15, 16, 17, 18, 19, 20, 21, 22, 23, 24, 25, 26] (v := ?_) rfl (by kernel_rfl) (by kernel_rfl) (by kernel_rfl) (by kernel_rfl) (fun _ _ _ h => h) (Or.inl ⟨by kernel_rfl, ?_⟩) (by assumption) ?_
      rotate_left
      · intro w' hSw
        go_simp
        all_goals with_reducible rfl
      simp only [Act.put]
      refine wpTill_take (i := 7) [7, 8, 9, 10, 11, 12, 13, 14, 15, 16, 17, 18, 19, 20, 21, 22, 23, 24, 25, 26] (v := ?_) rfl (by kernel_rfl) (by kernel_rfl) (by kernel_rfl) (by kernel_rfl) (fun _ _ _ h => h) (Or.inl ⟨by kernel_rfl, ?_⟩) (by assumption) ?_
      rotate_left
      · intro w' hSw
        go_simp
        all_goals with_reducible rfl
      simp only [Act.put]
      refine wpTill_take (i := 8) [8, 10, 11, 12, 13, 14, 15, 16, 17, 18, 19, 20, 21, 22, 23, 24, 25, 26] (v := viewV a.t a.g0 a.g1 (.slice aa a.ss.length ac)) rfl (by kernel_rfl) (by kernel_rfl) (by kernel_rfl) (by kernel_rfl) (fun _ _ _ h => h) (Or.inl ⟨by kernel_rfl, ?_⟩) (by assumption) ?_
      · intro w' hSw
        have e0 := m0 w' hSw
        have e1 := m1 w' hSw
        have e2 := m2 w' hSw
        have e3 := m3 w' hSw
        clear m0 m1 m2 m3 n0 n1 n2 n3 d0 d1 d2 d3 hSw
        go_simp
        all_goals with_reducible rfl
      simp only [Act.put]
      refine wpTill_take (i := 9) [9, 10, 11, 12, 13, 14, 15, 16, 17, 18, 19, 20, 21, 22, 23, 24, 25, 26] (v := viewV a.t a.g0 a.g1 (.slice aa a.ss.length ac)) rfl (by kernel_rfl) (by kernel_rfl) (by kernel_rfl) (by kernel_rfl) (fun _ _ _ h => h) (Or.inl ⟨by kernel_rfl, ?_⟩) (by assumption) ?_
      · intro w' hSw
        have e0 := m0 w' hSw
        have e1 := m1 w' hSw
        have e2 := m2 w' hSw
        have e3 := m3 w' hSw
        clear m0 m1 m2 m3 n0 n1 n2 n3 d0 d1 d2 d3 hSw
        go_simp
        all_goals with_reducible rfl
      simp only [Act.put]
      refine wpTill_one (i := 10) (by kernel_rfl) rfl (fun K hK => ?_)
      go_simp
      refine (HPA.out _ (by assumption)).mono ?_
      rintro e w4 ⟨rfl, hb4⟩
      have HS4 : Below Q.heap.size Q w4 := HS3.trans (hb4.mono HS3.size)
      clear hb4
      go_wp2_with fail
      refine hK.out _ _ (fun _ => HS4) ?_
      clear hK K
      refine wpTill_take (i := 11) [11, 12, 13, 14, 15, 16, 17, 18, 19, 20, 21, 22, 23, 24, 25, 26] (v := ?_) rfl (by kernel_rfl) (by kernel_rfl) (by kernel_rfl) (by kernel_rfl) (fun _ _ _ h => h) (Or.inl ⟨by kernel_rfl, ?_⟩) (by assumption) ?_
      rotate_left
      · intro w' hSw
        go_simp
        all_goals with_reducible rfl
      simp only [Act.put]
      refine wpTill_take (i := 12) [12, 13, 14, 15, 16, 17, 18, 19, 20, 21, 22, 23, 24, 25, 26] (v := ?_) rfl (by kernel_rfl) (by kernel_rfl) (by kernel_rfl) (by kernel_rfl) (fun _ _ _ h => h) (Or.inl ⟨by kernel_rfl, ?_⟩) (by assumption) ?_
      rotate_left
      · intro w' hSw
        go_simp
        all_goals with_reducible rfl
      simp only [Act.put]
      refine wpTill_take (i := 13) [13, 14, 16, 17, 18, 19, 20, 21, 22, 23, 24, 25, 26] (v := viewV a.t a.g0 a.g1 (.slice aa a.ss.length ac)) rfl (by kernel_rfl) (by kernel_rfl) (by kernel_rfl) (by kernel_rfl) (fun _ _ _ h => h) (Or.inl ⟨by kernel_rfl, ?_⟩) (by assumption) ?_
      · intro w' hSw
        have e0 := m0 w' hSw
        have e1 := m1 w' hSw
        have e2 := m2 w' hSw
        have e3 := m3 w' hSw
        clear m0 m1 m2 m3 n0 n1 n2 n3 d0 d1 d2 d3 hSw
        go_simp
        all_goals with_reducible rfl
      simp only [Act.put]
      refine wpTill_take (i := 15) [15, 16, 17, 18, 19, 20, 21, 22, 23, 24, 25, 26] (v := viewV a.t a.g0 a.g1 (.slice aa a.ss.length ac)) rfl (by kernel_rfl) (by kernel_rfl) (by kernel_rfl) (by kernel_rfl) (fun _ _ _ h => h) (Or.inl ⟨by kernel_rfl, ?_⟩) (by assumption) ?_
      · intro w' hSw
        have e0 := m0 w' hSw
        have e1 := m1 w' hSw
        have e2 := m2 w' hSw
        have e3 := m3 w' hSw
        clear m0 m1 m2 m3 n0 n1 n2 n3 d0 d1 d2 d3 hSw
        go_simp
        all_goals with_reducible rfl
      simp only [Act.put]
      refine wpTill_one (i := 14) (by kernel_rfl) rfl (fun K hK => ?_)
      go_simp
      refine (HM1.out _ (by assumption)).mono ?_
      rintro e w5 ⟨rfl, hb5⟩
      have HS5 : Below Q.heap.size Q w5 := HS4.trans (hb5.mono HS4.size)
      clear hb5
      go_wp2_with fail
      refine hK.out _ _ (fun _ => HS5) ?_
      clear hK K
      refine wpTill_one (i := 16) (by kernel_rfl) rfl (fun K hK => ?_)
      go_simp
      refine (HM2.out _ (by assumption)).mono ?_
      rintro e w6 ⟨rfl, hb6⟩
      have HS6 : Below Q.heap.size Q w6 := HS5.trans (hb6.mono HS5.size)
      clear hb6
      go_wp2_with fail
      refine hK.out _ _ (fun _ => HS6) ?_
      clear hK K
      refine wpTill_take (i := 17) [17, 18, 19, 20, 21, 22, 23, 24, 25, 26] (v := ?_) rfl (by kernel_rfl) (by kernel_rfl) (by kernel_rfl) (by kernel_rfl) (fun _ _ _ h => h) (Or.inl ⟨by kernel_rfl, ?_⟩) (by assumption) ?_
      rotate_left
      · intro w' hSw
        go_simp
        all_goals with_reducible rfl
      simp only [Act.put]
      refine wpTill_take (i := 18) [18, 19, 20, 21, 22, 23, 24, 25, 26] (v := ?_) rfl (by kernel_rfl) (by kernel_rfl) (by kernel_rfl) (by kernel_rfl) (fun _ _ _ h => h) (Or.inl ⟨by kernel_rfl, ?_⟩) (by assumption) ?_
      rotate_left
      · intro w' hSw
        go_simp
        all_goals with_reducible rfl
      simp only [Act.put]
      refine wpTill_take (i := 19) [19, 20, 21, 22, 23, 24, 25, 26] (v := ?_) rfl (by kernel_rfl) (by kernel_rfl) (by kernel_rfl) (by kernel_rfl) (fun _ _ _ h => h) (Or.inl ⟨by kernel_rfl, ?_⟩) (by assumption) ?_
      rotate_left
      · intro w' hSw
        go_simp
        all_goals with_reducible rfl
      simp only [Act.put]
      refine wpTill_take (i := 20) [20, 21, 23, 24, 25, 26] (v := viewV V.t V.g0 V.g1 (.slice va V.ss.length vc)) rfl (by kernel_rfl) (by kernel_rfl) (by kernel_rfl) (by kernel_rfl) (fun _ _ _ h => h) (Or.inl ⟨by kernel_rfl, ?_⟩) (by assumption) ?_
      · intro w' hSw
        have e0 := d0 w' hSw
        have e1 := d1 w' hSw
        have e2 := d2 w' hSw
        have e3 := d3 w' hSw
        clear m0 m1 m2 m3 n0 n1 n2 n3 d0 d1 d2 d3 hSw
        go_simp
        all_goals with_reducible rfl
      simp only [Act.put]
      refine wpTill_take (i := 22) [22, 23, 24, 25, 26] (v := viewV V.t V.g0 V.g1 (.slice va V.ss.length vc)) rfl (by kernel_rfl) (by kernel_rfl) (by kernel_rfl) (by kernel_rfl) (fun _ _ _ h => h) (Or.inl ⟨by kernel_rfl, ?_⟩) (by assumption) ?_
      · intro w' hSw
        have e0 := d0 w' hSw
        have e1 := d1 w' hSw
        have e2 := d2 w' hSw
        have e3 := d3 w' hSw
        clear m0 m1 m2 m3 n0 n1 n2 n3 d0 d1 d2 d3 hSw
        go_simp
        all_goals with_reducible rfl
      simp only [Act.put]
      refine wpTill_one (i := 21) (by kernel_rfl) rfl (fun K hK => ?_)
      go_simp
      refine (HM3.out _ (by assumption)).mono ?_
      rintro e w7 ⟨rfl, hb7⟩
      have HS7 : Below Q.heap.size Q w7 := HS6.trans (hb7.mono HS6.size)
      clear hb7
      go_wp2_with fail
      refine hK.out _ _ (fun _ => HS7) ?_
      clear hK K
      refine wpTill_one (i := 23) (by kernel_rfl) rfl (fun K hK => ?_)
      go_simp
      refine (HM4.out _ (by assumption)).mono ?_
      rintro e w8 ⟨rfl, hb8⟩
      have HS8 : Below Q.heap.size Q w8 := HS7.trans (hb8.mono HS7.size)
      clear hb8
      go_wp2_with fail
      refine hK.out _ _ (fun _ => HS8) ?_
      clear hK K
      refine wpTill_take (i := 24) [24, 25, 26] (v := ?_) rfl (by kernel_rfl) (by kernel_rfl) (by kernel_rfl) (by kernel_rfl) (fun _ _ _ h => h) (Or.inl ⟨by kernel_rfl, ?_⟩) (by assumption) ?_
      rotate_left
      · intro w' hSw
        go_simp
        all_goals with_reducible rfl
      simp only [Act.put]
      refine wpTill_take (i := 25) [25, 26] (v := ?_) rfl (by kernel_rfl) (by kernel_rfl) (by kernel_rfl) (by kernel_rfl) (fun _ _ _ h => h) (Or.inl ⟨by kernel_rfl, ?_⟩) (by assumption) ?_
      rotate_left
      · intro w' hSw
        go_simp
        all_goals with_reducible rfl
      simp only [Act.put]
      refine wpTill_one (i := 26) (by kernel_rfl) rfl (fun K hK => ?_)
      go_simp
      refine hK.out _ _ (fun h => absurd rfl h) ?_
      clear hK K
      refine wpTill_done (by kernel_rfl) ?_ _
      refine NoPanic.normal ?_
      have HF : Below w.heap.size w w8 := HFQ.out.trans (HS8.mono HFQ.out.size)
      go_wp2
      go_ret
      exact ⟨rfl, HF⟩
end Go.Proofs.Ytgiieepfhohmhaa
