/- A tick under way: all move at once. -/
import Derived.Test.YtakmjfchhchngaaWi
import Derived.Test.YtakmjfchhchngaaMk
namespace Go.Proofs.Ytakmjfchhchngaa
open Go.RowKit Go.Maps

/- What a move leans on. -/
structure MoveOk (s : St) : Prop where
  len : s.es.length ≤ 100
  on : ∀ i, i < s.es.length → OnU (rec s.es i)
  aim : ∀ i, i < s.es.length → AimU s.es (rec s.es i)
  head : ∀ i, i < s.es.length → headB s.es (rec s.es i) = true → (0 ≤ headX s.es (rec s.es i) ∧ headX s.es (rec s.es i) < 12) ∧ 0 ≤ headY s.es (rec s.es i) ∧ headY s.es (rec s.es i) < 12
  wf : ∀ i, i < s.es.length → (Lit.int .i64 (fld (rec s.es i) 0)).wf = true
  uniq : Uniq s.es

theorem grown_cell {w w' : World} {B : Nat} (h : w.grownBy w' (some B)) {k : Nat} (hk : k < w.heap.size) (hne : k ≠ B) (j : Nat) : w'.cell? ⟨k, j, none⟩ = w.cell? ⟨k, j, none⟩ :=
  World.cell?_of_block (w := w) (a := ⟨k, j, none⟩) (h.block k hk (fun e => hne (by simpa using e)))
theorem grown_refl (w : World) (r : Option Nat) : w.grownBy w r := ⟨rfl, rfl, rfl, Nat.le_refl _, fun _ _ _ => rfl⟩
theorem grown_drew (w : World) (r : Option Nat) : w.grownBy w.drew r := ⟨rfl, rfl, rfl, Nat.le_refl _, fun _ _ _ => rfl⟩
theorem grown_to_below {w w' : World} {B b : Nat} (h : w.grownBy w' (some B)) (hb : b ≤ B) (hs : b ≤ w.heap.size) : Below b w w' := ⟨h.os, h.tape, h.output, h.size, fun k hk => h.block k (by omega) (fun e => by simp at e; omega)⟩

theorem gm_two {base : Nat} {w : World} {p g n c : Nat} {fv bv : Value} {B : Nat} {s : St} {was : Int → Int} (h : Gm base w p (.slice (some ⟨g, 0, none⟩) n c) fv bv B s was) {i : Nat} (hi : i < s.es.length) (x y : Int) :
    Gm base ((w.setCell ⟨g, i * 10 + 3, none⟩ (.int .i64 x)).setCell ⟨g, i * 10 + 4, none⟩ (.int .i64 y)) p (.slice (some ⟨g, 0, none⟩) n c) fv bv B { s with es := s.es.set i (updR 10 (updR 10 (rec s.es i) 3 x) 4 y) } was := by
  have h1 := gm_rput h hi (j := 3) (by omega) x
  have h2 := gm_rput h1 (i := i) (by simpa using hi) (j := 4) (by omega) y
  rw [rec_set_same hi, set_set] at h2
  exact h2
theorem pm_two {κ : Type} {cd : κ → Value} {w : World} {g M : Nat} {L : List (κ × Value)} {o1 o2 : Nat} {v1 v2 : Value} (h : PM w M cd L) (hg : g ≠ M) : PM ((w.setCell ⟨g, o1, none⟩ v1).setCell ⟨g, o2, none⟩ v2) M cd L :=
  h.other ((heap_setCell_other _ ⟨g, o2, none⟩ M v2 (fun e => hg e.symm)).trans (heap_setCell_other _ ⟨g, o1, none⟩ M v1 (fun e => hg e.symm)))
theorem moveU_some {es : List (List Int)} {was : Int → Int} {u : List Int} {q : Int × Int} (h : wishE es was u = some q) : moveU es was u = if claimsE es was q.1 q.2 = 1 then updR 10 (updR 10 u 3 q.1) 4 q.2 else u := by
  unfold moveU
  rw [h]
theorem moveU_none {es : List (List Int)} {was : Int → Int} {u : List Int} (h : wishE es was u = none) : moveU es was u = u := by
  unfold moveU
  rw [h]

set_option maxRecDepth 100000 in
set_option maxHeartbeats 8000000 in
theorem move_calls (base p : Nat) (s : St) (was : Int → Int) (w : World) (hok : MoveOk s) (h : GmE base w p s was) :
    Calls Try.prog 68 #[.pointer (some ⟨p, 0, none⟩)] w fun e w' => e = .returned (.tuple #[]) ∧ GmE base w' p (moveS s was) was ∧ Below base w w' := by
  have HG := hid h
  have HOK := hid hok
  obtain ⟨ev, fv, bv, B, hGm⟩ := h
  have hlt := hGm.lt
  have hbp := hGm.bp
  obtain ⟨ea, c, rfl, hcap, hrecs, hg0⟩ := hGm.er.open
  have HR := hid hrecs
  have HE0 := hid hg0
  have HM := hid hGm
  have hmm := @run_makeMap Try.prog
  obtain ⟨W, hW⟩ : ∃ W, (w.alloc (.map #[] 0)).alloc (.map #[] 0) = W := ⟨_, rfl⟩
  have hbW : Below w.heap.size w W := by rw [← hW]; exact ((Below.refl _ w).alloc (Nat.le_refl _) _).alloc (by simp [go_sem]) _
  have hsW : W.heap.size = w.heap.size + 2 := by rw [← hW]; simp [go_sem]
  have hP0 : PM W w.heap.size inV [] := by rw [← hW]; exact (PM.made w inV).below ((Below.refl _ _).alloc (Nat.le_refl _) _)
  have hP1 : PM W (w.heap.size + 1) plV [] := by
    have e : w.heap.size + 1 = (w.alloc (.map #[] 0)).heap.size := by simp [go_sem]
    rw [← hW, e]
    exact PM.made _ plV
  have d5 : W.cell? ⟨p, 5, none⟩ = some (.slice ea s.es.length c) := (hGm.below hbW).cell 5
  have HBW := hid hbW
  have HSW := hid hsW
  have HP0 := hid hP0
  have HP1 := hid hP1
  have hlen := hok.len
  clear hGm hrecs hg0 hbW hsW hP0 hP1 hok
  go_enter Try.func68, Try.ntmps68
  go_wp2
  clear d5 hmm hW
  go_loopw [20] (fun i wr => ∃ (k : Nat) (Lw : List (Int × Value)) (Lc : List ((Int × Int) × Value)), k ≤ s.es.length ∧ i = .int .i64 k ∧ Hid (Below w.heap.size w wr) ∧ Hid (PM wr w.heap.size inV Lw) ∧ Hid (PM wr (w.heap.size + 1) plV Lc) ∧ Hid (WishL s.es was k Lw) ∧ Hid (ClaimL s.es was k Lc)) (fun i _ => s.es.length - (intOf i).toNat)
  case atStart => exact ⟨0, [], [], Nat.zero_le _, rfl, HBW, HP0, HP1, wishL_zero _ _, claimK_zero _ _⟩
  case round =>
    clear HBW HP0 HP1 HSW
    obtain ⟨k, Lw, Lc, hk, rfl, HB, HPw, HPc, HWL, HCL⟩ := hrel
    by_cases hkl : k < s.es.length
    · have hltz : (k : Int) < (s.es.length : Int) := by omega
      obtain ⟨b, o, rfl, hb, l0, l1, l2, l3, l4, l5, l6, l7, l8, l9⟩ := (HR.out.below HB.out).ten hkl
      have HON := hid (HOK.out.on k hkl)
      have HAI := hid (HOK.out.aim k hkl)
      have HHE := hid (HOK.out.head k hkl)
      have HWF := hid (HOK.out.wf k hkl)
      have HCM := hid (claim_at HCL.out)
      have HCN := hid (fun l => @claim_none s.es was k hkl l)
      have HCS := hid (fun l => @claim_some s.es was k hkl l)
      have HWN := hid (fun h => wish_none hkl HOK.out.uniq HWL.out h)
      have HWS := hid (fun q h => @wish_some s.es was k hkl HOK.out.uniq Lw HWL.out q h)
      have HC0 := hid (HCL.out (fld (rec s.es k) 3, fld (rec s.es k) 4))
      have HLE := hid (claimK_le s.es was k (fld (rec s.es k) 3, fld (rec s.es k) 4))
      generalize rec s.es k = y at l0 l1 l2 l3 l4 l5 l6 l7 l8 l9 HON HAI HHE HWF HCM HCN HCS HWN HWS HC0 HLE
      generalize claimK s.es was k (fld y 3, fld y 4) = n0 at HCM HC0 HLE
      have hn0 : (n0 : Int) ≤ 1000 := by have := HLE.out; omega
      go_wp2_with fail
      obtain ⟨V, hV⟩ : ∃ V, wr.alloc (.cells (entC y) 86) = V := ⟨_, rfl⟩
      rw [hV]
      have hbV : Below wr.heap.size wr V := by rw [← hV]; exact (Below.refl _ _).alloc (Nat.le_refl _) _
      have hVh : V.heap[wr.heap.size]? = some (.cells (entC y) 86) := by rw [← hV]; exact heap_alloc_new _ _
      have hsV : wr.heap.size < V.heap.size := (Array.getElem?_eq_some_iff.1 hVh).1
      have hsr : w.heap.size + 1 < wr.heap.size := HPc.out.lt
      have hBV : Below w.heap.size w V := HB.out.trans (hbV.mono (by omega))
      have hPwV := HPw.out.below hbV
      have hPcV := HPc.out.below hbV
      clear hV l0 l1 l2 l3 l4 l5 l6 l7 l8 l9
      obtain ⟨w1, w2, i, hme, hp1, hg1, hes, hp2, hg2⟩ := PM.entry (w := V.drew) kind_claims hPcV (fld y 3, fld y 4) (.int .i64 ((n0 : Int) + 1))
      have hl0 := PM.look (w := V.drew) kind_claims hPcV (fld y 3, fld y 4)
      have hl1 := PM.look kind_claims hp1 (fld y 3, fld y 4)
      rw [getL_laid] at hl1
      have hC0 : (getL (fld y 3, fld y 4) Lc).getD (.int .i64 0) = .int .i64 n0 := HC0.out
      rw [hC0] at hme hl0 hl1
      have hg1' := drew_grown hg1
      have hg2' := drew_grown hg2
      have G3 : ∀ w', V.grownBy w' (some (w.heap.size + 1)) → w'.cell? ⟨wr.heap.size, 3, none⟩ = some (.int .i64 (fld y 3)) := fun w' h => (grown_cell h hsV (by omega) 3).trans (cell_of_row V _ 3 _ _ _ hVh)
      have G4 : ∀ w', V.grownBy w' (some (w.heap.size + 1)) → w'.cell? ⟨wr.heap.size, 4, none⟩ = some (.int .i64 (fld y 4)) := fun w' h => (grown_cell h hsV (by omega) 4).trans (cell_of_row V _ 4 _ _ _ hVh)
      have hwr : IntKind.i64.wrap ((n0 : Int) + 1) = (n0 : Int) + 1 := IntWalk.i64_in _ ⟨by omega, by omega⟩
      have HBV := hid hBV
      have HVH := hid hVh
      have HPV := hid hPwV
      have HP2 := hid hp2
      have HG1 := hid hg1'
      have HG2 := hid hg2'
      clear hp1 hp2 hg1 hg2 hg1' hg2' hPwV hPcV hbV hBV hVh hC0
      go_cut [24] (fun _ wx => Hid (V.grownBy wx (some (w.heap.size + 1)) ∧ PM wx (w.heap.size + 1) plV (putL (fld y 3, fld y 4) (.int .i64 ((n0 : Int) + 1)) Lc)))
      case first =>
        go_region_held3 (fun w' => V.grownBy w' (some (w.heap.size + 1))) (first | with_reducible exact grown_drew _ _ | with_reducible exact HG1.out | with_reducible exact HG2.out | assumption) (fail)
        all_goals
          go_wp2
          go_meet
          exact ⟨HG2.out, HP2.out⟩
      case rest =>
        have hgc := hcut.out.1
        have HPX := hid hcut.out.2
        have hBc : Below w.heap.size w wc := HBV.out.trans (grown_to_below hgc (by omega) (by omega))
        have hVc : wc.heap[wr.heap.size]? = some (.cells (entC y) 86) := (hgc.block _ hsV (by simp; omega)).trans HVH.out
        have HPY : Hid (PM wc w.heap.size inV Lw) := HPV.out.grown hgc (by simp)
        have hszc : wr.heap.size < wc.heap.size := (Array.getElem?_eq_some_iff.1 hVc).1
        have y0 : wc.cell? ⟨wr.heap.size, 0, none⟩ = some (.int .i64 (fld y 0)) := cell_of_row wc _ 0 _ _ _ hVc
        have y1 : wc.cell? ⟨wr.heap.size, 1, none⟩ = some (.int .i64 (fld y 1)) := cell_of_row wc _ 1 _ _ _ hVc
        have y2 : wc.cell? ⟨wr.heap.size, 2, none⟩ = some (.int .i64 (fld y 2)) := cell_of_row wc _ 2 _ _ _ hVc
        have y3 : wc.cell? ⟨wr.heap.size, 3, none⟩ = some (.int .i64 (fld y 3)) := cell_of_row wc _ 3 _ _ _ hVc
        have y4 : wc.cell? ⟨wr.heap.size, 4, none⟩ = some (.int .i64 (fld y 4)) := cell_of_row wc _ 4 _ _ _ hVc
        have y5 : wc.cell? ⟨wr.heap.size, 5, none⟩ = some (.int .i64 (fld y 5)) := cell_of_row wc _ 5 _ _ _ hVc
        have y6 : wc.cell? ⟨wr.heap.size, 6, none⟩ = some (.int .i64 (fld y 6)) := cell_of_row wc _ 6 _ _ _ hVc
        have y7 : wc.cell? ⟨wr.heap.size, 7, none⟩ = some (.int .i64 (fld y 7)) := cell_of_row wc _ 7 _ _ _ hVc
        have y8 : wc.cell? ⟨wr.heap.size, 8, none⟩ = some (.int .i64 (fld y 8)) := cell_of_row wc _ 8 _ _ _ hVc
        have y9 : wc.cell? ⟨wr.heap.size, 9, none⟩ = some (.int .i64 (fld y 9)) := cell_of_row wc _ 9 _ _ _ hVc
        have HBc := hid hBc
        have HVc := hid hVc
        have HWI := hid (wish_calls base p s was y wc hlen HON.out HAI.out HHE.out HWF.out (HG.out.below hBc))
        clear hcut hgc hBc hVc hme hl0 hl1 hes G3 G4 hwr HBV HVH HPV HP2 HG1 HG2
        go_wp2_with fail
        refine HWI.out.mono ?_
        clear HWI y0 y1 y2 y3 y4 y5 y6 y7 y8 y9
        rintro e w3 ⟨v, rfl, ⟨qx, qy, rfl, hq⟩, hb3⟩
        have HQ := hid hq
        have hV3 := (hb3.block _ hszc).trans HVc.out
        have y0 : w3.cell? ⟨wr.heap.size, 0, none⟩ = some (.int .i64 (fld y 0)) := cell_of_row w3 _ 0 _ _ _ hV3
        have hlt3 : wr.heap.size < w3.heap.size := (Array.getElem?_eq_some_iff.1 hV3).1
        have HB3 : Hid (Below w.heap.size w w3) := HBc.out.trans (hb3.mono (by omega))
        have HX3 := hid (HPX.out.below hb3)
        have HY3 := hid (HPY.out.below hb3)
        clear hq hb3 hV3 HPX HPY HBc HVc
        have hb4 : Below w3.heap.size w3 (w3.alloc (.cells #[.int .i64 qx, .int .i64 qy] 162)) := (Below.refl _ _).alloc (Nat.le_refl _) _
        have HB4 : Hid (Below w.heap.size w (w3.alloc (.cells #[.int .i64 qx, .int .i64 qy] 162))) := HB3.out.trans (hb4.mono (by omega))
        have HX4 := hid (HX3.out.below hb4)
        have HY4 := hid (HY3.out.below hb4)
        have z0 : (w3.alloc (.cells #[.int .i64 qx, .int .i64 qy] 162)).cell? ⟨wr.heap.size, 0, none⟩ = some (.int .i64 (fld y 0)) := (hb4.cell (p := ⟨wr.heap.size, 0, none⟩) hlt3).trans y0
        have HZ0 := hid z0
        clear z0 hb4
        cases hwi : wishE s.es was y with
        | none =>
          have HCn := hid (HCN.out _ HCM.out hwi)
          have HWn := hid (HWN.out hwi)
          clear hwi
          go_wp2
          go_roundw
          case rel => exact ⟨k + 1, Lw, _, by omega, by go_num, HB4, HY4, HX4, HWn, HCn⟩
          case measure => simp [intOf]; omega
        | some q =>
          have hqe := HQ.out q hwi
          subst hqe
          have HCs := hid (HCS.out _ HCM.out hwi)
          have HWs := hid (HWS.out _ hwi)
          clear hwi
          obtain ⟨U, hU⟩ : ∃ U, w3.alloc (.cells #[.int .i64 qx, .int .i64 qy] 162) = U := ⟨_, rfl⟩
          rw [hU] at HB4 HX4 HY4 HZ0
          have hUh : U.heap[w3.heap.size]? = some (.cells #[.int .i64 qx, .int .i64 qy] 162) := by rw [← hU]; exact heap_alloc_new _ _
          have hUs : w3.heap.size < U.heap.size := (Array.getElem?_eq_some_iff.1 hUh).1
          have u0 : U.cell? ⟨w3.heap.size, 0, none⟩ = some (.int .i64 qx) := cell_of_row U _ 0 _ _ _ hUh
          have u1 : U.cell? ⟨w3.heap.size, 1, none⟩ = some (.int .i64 qy) := cell_of_row U _ 1 _ _ _ hUh
          have z0 := HZ0.out
          have HUH := hid hUh
          obtain ⟨w5, hr5, hp5, hg5⟩ := PM.put kind_wishes HY4.out (fld y 0) (plV (qx, qy))
          have HP5 := hid hp5
          have HG5 := hid hg5
          have HC5 : Hid (PM w5 (w.heap.size + 1) plV (putL (fld y 3, fld y 4) (.int .i64 ((n0 : Int) + 1)) Lc)) := HX4.out.grown hg5 (by simp)
          have HB5 : Hid (Below w.heap.size w w5) := HB4.out.trans (grown_to_below hg5 (Nat.le_refl _) (by omega))
          have hh5 : w5.heap[w3.heap.size]? = some (.cells #[.int .i64 qx, .int .i64 qy] 162) := (hg5.block _ hUs (by simp; omega)).trans hUh
          have HH5 := hid hh5
          clear hp5 hg5 hh5 hUh
          go_wp2_with fail
          clear u0 u1 z0 y0 hU hr5 HZ0 HX4 HY4 HUH HB4
          have hval := HCM.out (qx, qy)
          have hle1 := claimK_le s.es was k (qx, qy)
          have hle2 : (if isAt qx qy y = true then 1 else 0) ≤ 1 := by split <;> omega
          have hn1 : claimK s.es was k (qx, qy) + (if isAt qx qy y = true then 1 else 0) ≤ 1000 := by omega
          generalize claimK s.es was k (qx, qy) + (if isAt qx qy y = true then 1 else 0) = n1 at hval HCs hn1
          obtain ⟨v1, v2, i5, hme5, hp51, hg51, hes5, hp52, hg52⟩ := PM.entry (w := w5.drew) kind_claims HC5.out (qx, qy) (.int .i64 ((n1 : Int) + 1))
          have hl50 := PM.look (w := w5.drew) kind_claims HC5.out (qx, qy)
          have hl51 := PM.look kind_claims hp51 (qx, qy)
          rw [getL_laid] at hl51
          rw [hval] at hme5 hl50 hl51
          have hsw5 : w3.heap.size < w5.heap.size := (Array.getElem?_eq_some_iff.1 HH5.out).1
          have G0 : ∀ w', w5.grownBy w' (some (w.heap.size + 1)) → w'.cell? ⟨w3.heap.size, 0, none⟩ = some (.int .i64 qx) := fun w' h => (grown_cell h hsw5 (by omega) 0).trans (cell_of_row w5 _ 0 _ _ _ HH5.out)
          have G1 : ∀ w', w5.grownBy w' (some (w.heap.size + 1)) → w'.cell? ⟨w3.heap.size, 1, none⟩ = some (.int .i64 qy) := fun w' h => (grown_cell h hsw5 (by omega) 1).trans (cell_of_row w5 _ 1 _ _ _ HH5.out)
          have hwr : IntKind.i64.wrap ((n1 : Int) + 1) = (n1 : Int) + 1 := IntWalk.i64_in _ ⟨by omega, by omega⟩
          have HG51 := hid (drew_grown hg51)
          have HG52 := hid (drew_grown hg52)
          have HP52 := hid hp52
          clear hp51 hg51 hp52 hg52 hval hle1 hle2
          go_region_held3 (fun w' => w5.grownBy w' (some (w.heap.size + 1))) (first | with_reducible exact grown_drew _ _ | with_reducible exact HG51.out | with_reducible exact HG52.out | assumption) (fail)
          all_goals
            clear hme5 hl50 hl51 hes5 G0 G1 hwr
            have HB6 : Hid (Below w.heap.size w v2) := HB5.out.trans (grown_to_below HG52.out (by omega) (by omega))
            have HP6 : Hid (PM v2 w.heap.size inV (putL (fld y 0) (plV (qx, qy)) Lw)) := HP5.out.grown HG52.out (by simp)
            go_wp2
            go_roundw
            case rel => exact ⟨k + 1, _, _, by omega, by go_num, HB6, HP6, HP52, HWs, HCs⟩
            case measure => simp [intOf]; omega
    · have hltz : ¬ (k : Int) < (s.es.length : Int) := by omega
      have hke : k = s.es.length := by omega
      subst hke
      have hGr := HM.out.below HB.out
      have d5 := hGr.cell 5
      have HG0 : Hid (Gm base wr p (.slice ea s.es.length c) fv bv B { s with es := mapK (moveU s.es was) s.es 0 } was) := by
        show Gm _ _ _ _ _ _ _ _ _
        rw [mapK_zero]
        exact hGr
      have HB0 : Hid (Below base w wr) := HB.out.mono (by omega)
      have hsr : w.heap.size + 1 < wr.heap.size := HPc.out.lt
      clear hGr hkl hk
      go_wp2
      clear d5
      go_loopw [58] (fun i wr => ∃ k : Nat, k ≤ s.es.length ∧ i = .int .i64 k ∧ Hid (Gm base wr p (.slice ea s.es.length c) fv bv B { s with es := mapK (moveU s.es was) s.es k } was) ∧ Hid (Below base w wr) ∧ Hid (PM wr w.heap.size inV Lw) ∧ Hid (PM wr (w.heap.size + 1) plV Lc)) (fun i _ => s.es.length - (intOf i).toNat)
      case atStart => exact ⟨0, Nat.zero_le _, rfl, HG0, HB0, HPw, HPc⟩
      case round =>
        clear HG0 HB0 HPw HPc hsr HB
        obtain ⟨k, hk, rfl, HGk, HBk, HPw, HPc⟩ := hrel
        by_cases hkl : k < s.es.length
        · have hkz : (k : Int) < (s.es.length : Int) := by omega
          have hlk : (mapK (moveU s.es was) s.es k).length = s.es.length := mapK_length _ _ hk
          obtain ⟨g, rfl, hbg, hgl⟩ := HE0.out (by omega)
          have hkl2 : k < ({ s with es := mapK (moveU s.es was) s.es k } : St).es.length := by show k < (mapK (moveU s.es was) s.es k).length; omega
          obtain ⟨hc, hf⟩ := HGk.out.er.ten hkl2
          have hrk : rec ({ s with es := mapK (moveU s.es was) s.es k } : St).es k = rec s.es k := by show rec (mapK (moveU s.es was) s.es k) k = _; rw [mapK_rec _ _ hk hkl, if_neg (by omega)]
          rw [hrk] at hc
          have l0 : wr.cell? ⟨g, k * 10, none⟩ = some (.int .i64 (fld (rec s.es k) 0)) := hc 0 (by omega)
          have l3 := hc 3 (by omega)
          have l4 := hc 4 (by omega)
          have f3 := hf (k * 10 + 3)
          have f4 := hf (k * 10 + 4)
          have d5 := HGk.out.cell 5
          have HRK := hid hrk
          have hgr : g < wr.heap.size := World.block_lt_of_cell? wr _ l3
          have hsr : w.heap.size + 1 < wr.heap.size := HPc.out.lt
          have HLO := hid (PM.lookOk kind_wishes HPw.out (fld (rec s.es k) 0))
          rw [HWL.out.1 k hkl] at HLO
          have hpr := HGk.out.lt
          have hgw : g ≠ w.heap.size ∧ g ≠ w.heap.size + 1 := ⟨by omega, by omega⟩
          clear hc hf hrk
          cases hwi : wishE s.es was (rec s.es k) with
          | none =>
            have HS : Hid (mapK (moveU s.es was) s.es (k + 1) = mapK (moveU s.es was) s.es k) := mapK_same _ _ hkl (moveU_none hwi)
            have hlo := HLO.out
            rw [hwi] at hlo
            have hlo' : (Instr.lookup 159 (.map (some w.heap.size)) (.int .i64 (fld (rec s.es k) 0)) true).run Try.prog wr = .ok (.tuple #[.agg #[.int .i64 0, .int .i64 0], .bool false]) wr := hlo
            clear hlo hwi HLO
            have hb4 : Below wr.heap.size wr (wr.alloc (.cells #[.int .i64 0, .int .i64 0] 162)) := (Below.refl _ _).alloc (Nat.le_refl _) _
            have HG4 : Hid (Gm base (wr.alloc (.cells #[.int .i64 0, .int .i64 0] 162)) p (.slice (some ⟨g, 0, none⟩) s.es.length c) fv bv B { s with es := mapK (moveU s.es was) s.es (k + 1) } was) := by
              show Gm _ _ _ _ _ _ _ _ _
              rw [HS.out]
              exact HGk.out.below hb4
            have HB4 : Hid (Below base w (wr.alloc (.cells #[.int .i64 0, .int .i64 0] 162))) := HBk.out.trans (hb4.mono (by omega))
            have HW4 := hid (HPw.out.below hb4)
            have HC4 := hid (HPc.out.below hb4)
            clear hb4 HGk HBk HPw HPc
            go_wp2
            go_roundw
            case rel => exact ⟨k + 1, by omega, by go_num, HG4, HB4, HW4, HC4⟩
            case measure => simp [intOf]; omega
          | some q =>
            obtain ⟨qx, qy⟩ := q
            have hlo := HLO.out
            rw [hwi] at hlo
            have hlo' : (Instr.lookup 159 (.map (some w.heap.size)) (.int .i64 (fld (rec s.es k) 0)) true).run Try.prog wr = .ok (.tuple #[.agg #[.int .i64 qx, .int .i64 qy], .bool true]) wr := hlo
            clear hlo HLO
            have hb4 : Below wr.heap.size wr (wr.alloc (.cells #[.int .i64 qx, .int .i64 qy] 162)) := (Below.refl _ _).alloc (Nat.le_refl _) _
            have hW4 := HPw.out.below hb4
            have hC4 := HPc.out.below hb4
            have hlc := PM.look kind_claims hC4 (qx, qy)
            have hnc := HCL.out (qx, qy)
            rw [claimK_all] at hnc
            have hlc' : (Instr.lookup 160 (.map (some (w.heap.size + 1))) (.agg #[.int .i64 qx, .int .i64 qy]) false).run Try.prog (wr.alloc (.cells #[.int .i64 qx, .int .i64 qy] 162)) = .ok (.int .i64 (claimsE s.es was qx qy)) (wr.alloc (.cells #[.int .i64 qx, .int .i64 qy] 162)) := by
              rw [hnc] at hlc
              exact hlc
            have hG4 := HGk.out.below hb4
            have HB4 : Hid (Below base w (wr.alloc (.cells #[.int .i64 qx, .int .i64 qy] 162))) := HBk.out.trans (hb4.mono (by omega))
            have m3 := (hb4.cell (p := ⟨g, k * 10 + 3, none⟩) hgr).trans l3
            have m4 := (hb4.cell (p := ⟨g, k * 10 + 4, none⟩) hgr).trans l4
            have fm3 := (hb4.frozen (p := ⟨g, k * 10 + 3, none⟩) hgr).trans f3
            have fm4 := (hb4.frozen (p := ⟨g, k * 10 + 4, none⟩) hgr).trans f4
            have HMU := hid (moveU_some hwi)
            clear hwi hlc hnc hb4
            by_cases hcl : claimsE s.es was qx qy = 1
            · have HN : Hid (mapK (moveU s.es was) s.es (k + 1) = (mapK (moveU s.es was) s.es k).set k (updR 10 (updR 10 (rec s.es k) 3 qx) 4 qy)) := by
                show _ = _
                rw [mapK_next _ _ hkl, HMU.out, if_pos hcl]
              have hclz : (((claimsE s.es was qx qy : Nat) : Int) == 1) = true := by rw [hcl]; rfl
              have hG5 := gm_two hG4 hkl2 qx qy
              rw [HRK.out] at hG5
              have HG5 : Hid (Gm base (((wr.alloc (.cells #[.int .i64 qx, .int .i64 qy] 162)).setCell ⟨g, k * 10 + 3, none⟩ (.int .i64 qx)).setCell ⟨g, k * 10 + 4, none⟩ (.int .i64 qy)) p (.slice (some ⟨g, 0, none⟩) s.es.length c) fv bv B { s with es := mapK (moveU s.es was) s.es (k + 1) } was) := by
                show Gm _ _ _ _ _ _ _ _ _
                rw [HN.out]
                exact hG5
              have HW5 := hid (pm_two (o1 := k * 10 + 3) (o2 := k * 10 + 4) (v1 := .int .i64 qx) (v2 := .int .i64 qy) hW4 hgw.1)
              have HC5 := hid (pm_two (o1 := k * 10 + 3) (o2 := k * 10 + 4) (v1 := .int .i64 qx) (v2 := .int .i64 qy) hC4 hgw.2)
              have HB5 : Hid (Below base w (((wr.alloc (.cells #[.int .i64 qx, .int .i64 qy] 162)).setCell ⟨g, k * 10 + 3, none⟩ (.int .i64 qx)).setCell ⟨g, k * 10 + 4, none⟩ (.int .i64 qy))) := (HB4.out.setCell (p := ⟨g, k * 10 + 3, none⟩) hbg _).setCell (p := ⟨g, k * 10 + 4, none⟩) hbg _
              clear hG5 hG4 hW4 hC4 hcl HB4 HGk HBk HPw HPc HMU HN
              go_wp2_with fail
              clear hlo' hlc' l0 l3 l4 f3 f4 d5
              have c0 : (wr.alloc (.cells #[.int .i64 qx, .int .i64 qy] 162)).cell? ⟨wr.heap.size, 0, none⟩ = some (.int .i64 qx) := cell_of_row _ _ 0 _ _ _ (heap_alloc_new _ _)
              have c1 : (wr.alloc (.cells #[.int .i64 qx, .int .i64 qy] 162)).cell? ⟨wr.heap.size, 1, none⟩ = some (.int .i64 qy) := cell_of_row _ _ 1 _ _ _ (heap_alloc_new _ _)
              generalize wr.alloc (.cells #[.int .i64 qx, .int .i64 qy] 162) = U at m3 m4 fm3 fm4 c0 c1 HG5 HW5 HC5 HB5 ⊢
              go_region
              all_goals
                go_wp2
                go_roundw
                case rel => exact ⟨k + 1, by omega, by go_num, HG5.out.below (Below.refl _ _).drew, HB5.out.drew, HW5, HC5⟩
                case measure => simp [intOf]; omega
            · have HS : Hid (mapK (moveU s.es was) s.es (k + 1) = mapK (moveU s.es was) s.es k) := mapK_same _ _ hkl (by rw [HMU.out, if_neg hcl])
              have hclz : (((claimsE s.es was qx qy : Nat) : Int) == 1) = false := by simp; omega
              have HG5 : Hid (Gm base (wr.alloc (.cells #[.int .i64 qx, .int .i64 qy] 162)) p (.slice (some ⟨g, 0, none⟩) s.es.length c) fv bv B { s with es := mapK (moveU s.es was) s.es (k + 1) } was) := by
                show Gm _ _ _ _ _ _ _ _ _
                rw [HS.out]
                exact hG4
              have HW4 := hid hW4
              have HC4 := hid hC4
              clear hG4 hW4 hC4 hcl HGk HBk HPw HPc HMU
              go_wp2
              go_roundw
              case rel => exact ⟨k + 1, by omega, by go_num, HG5, HB4, HW4, HC4⟩
              case measure => simp [intOf]; omega
        · have hkz : ¬ (k : Int) < (s.es.length : Int) := by omega
          have HF : Hid (GmE base wr p (moveS s was) was) := by
            have h := HGk.out
            rw [mapK_all _ _ (by omega)] at h
            exact ⟨_, _, _, _, h⟩
          clear HGk HPw HPc
          go_wp2
          go_end0
          exact ⟨rfl, HF.out, HBk.out⟩
end Go.Proofs.Ytakmjfchhchngaa
