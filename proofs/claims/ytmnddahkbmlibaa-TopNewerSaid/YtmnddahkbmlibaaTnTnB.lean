/- TopNewer: the walk. -/
import Derived.BigQuiet
import Derived.Test.YtmnddahkbmlibaaTnSmN
import Derived.Test.YtmnddahkbmlibaaTnNwX
namespace Go.Proofs.Ytmnddahkbmlibaa
open Go.RowKit Go.Maps
set_option maxRecDepth 100000 in
set_option maxHeartbeats 8000000 in
theorem topNewer_bad (s : St) (ua la : Option Addr) (uc lc : Nat) (l : List (List Int)) (w : World) (c : Nat) (hc : c ≠ 0) (hstep : ∀ W, Below w.heap.size w W → Calls Try.prog 52 #[newerV s.t s.g0 s.g1 s.nx (.slice ua s.es.length uc), .slice la l.length lc] W fun e w' => e = .returned (.tuple #[zeroNV, errV c]) ∧ Below W.heap.size W w') :
    Calls Try.prog 10 #[newerV s.t s.g0 s.g1 s.nx (.slice ua s.es.length uc), .slice la l.length lc] w fun e w' => e = .returned (.bool true) ∧ Below w.heap.size w w' := by
  have hb1 : Below w.heap.size w (w.alloc (.cells (newerC s.t s.g0 s.g1 s.nx (.slice ua s.es.length uc)) 90)) := (Below.refl _ w).alloc (Nat.le_refl _) _
  have HC := hid (hstep _ hb1)
  rw [errV_some hc] at HC
  have HB1 := hid hb1
  have HS1 : Hid ((w.alloc (.cells (newerC s.t s.g0 s.g1 s.nx (.slice ua s.es.length uc)) 90)).heap.size = w.heap.size + 1) := by show _ = _; simp [go_sem]
  clear hb1 hstep
  go_enter Try.func10, Try.ntmps10
  go_wp2_with fail
  refine HC.out.mono ?_
  rintro e w2 ⟨rfl, hb2⟩
  have HB2 : Hid (Below w.heap.size w w2) := HB1.out.trans (hb2.mono (by rw [HS1.out]; omega))
  have hs2 : w.heap.size < w2.heap.size := by have := hb2.size; rw [HS1.out] at this; omega
  clear HC hb2 HB1 HS1
  have hb3 : Below w2.heap.size w2 (w2.alloc (.cells (newerC 0 0 0 0 (.slice none 0 0)) 90)) := (Below.refl _ _).alloc (Nat.le_refl _) _
  have HB3 : Hid (Below w.heap.size w (w2.alloc (.cells (newerC 0 0 0 0 (.slice none 0 0)) 90))) := HB2.out.trans (hb3.mono (by omega))
  clear hb3
  go_wp2_with fail
  refine (sameNewer_calls 0 0 0 0 [] none none 0 0 _ (Nat.zero_le _) (Or.inl rfl) (Or.inl rfl)).mono ?_
  rintro e w4 ⟨rfl, hb4⟩
  have HB4 : Hid (Below w.heap.size w w4) := HB3.out.trans (hb4.mono (by simp [go_sem]; omega))
  clear hb4 HB3 HB2
  go_wp2
  go_ret
  exact ⟨rfl, HB4.out⟩
def likeN (e o : List Int) : Bool := (fld o 0 == fld e 0) && ((fld o 2 == fld e 2) && ((fld o 1 == fld e 1) && ((fld o 10 == fld e 10) && decide (Pl.farZ (fld o 3) (fld o 4) (fld e 3) (fld e 4) ≤ 1))))
def wasN (es : List (List Int)) (e : List Int) (k : Nat) : Bool := (es.take k).any (likeN e)
theorem wasN_next {es : List (List Int)} {e : List Int} {k : Nat} (hk : k < es.length) : wasN es e (k + 1) = (wasN es e k || likeN e (rec es k)) := by
  unfold wasN
  rw [take_rec hk, List.any_append]
  simp
theorem wasN_all {s : St} (h : InvN s) (l : List (List Int)) {e : List Int} (he : e ∈ (stepN s l).es) : wasN s.es e s.es.length = true ∨ (s.nx ≤ fld e 0 ∧ fld e 10 = s.t) := by
  rcases stepN_each h l e he with ⟨o, ho, h0, h2, h1, h10, hf⟩ | hx
  · refine Or.inl ?_
    unfold wasN
    rw [List.take_length, List.any_eq_true]
    refine ⟨o, ho, ?_⟩
    unfold likeN
    simp [h0, h2, h1, h10, hf]
  · exact Or.inr hx
set_option maxRecDepth 100000 in
set_option maxHeartbeats 16000000 in
theorem topNewer_good (s : St) (ua la : Option Addr) (uc lc : Nat) (l : List (List Int)) (w : World) (h : InW w s ua uc) (hl : Recs w la 6 l) (hc : checkN s.t s.g0 s.g1 s.nx s.es = 0) (h8 : l.length ≤ 8) (ht : s.t ≠ 60) :
    Calls Try.prog 10 #[newerV s.t s.g0 s.g1 s.nx (.slice ua s.es.length uc), .slice la l.length lc] w fun e w' => e = .returned (.bool true) ∧ Below w.heap.size w w' := by
  have hinv := invN_of_check h.fr hc
  have HIV := hid hinv
  have ht0 := hinv.t0
  have ht1 := hinv.t1
  have hTI := invN_step hinv (by omega) l
  have hTt := stepN_t hinv l
  have hTn := stepN_nx hinv l
  have HWA := hid (fun e he => @wasN_all s hinv l e he)
  have HGO := hid (fun hm => stepN_gold hinv l hm)
  obtain ⟨w1, hw1⟩ : ∃ w1, w.alloc (.cells (newerC s.t s.g0 s.g1 s.nx (.slice ua s.es.length uc)) 90) = w1 := ⟨_, rfl⟩
  have hb1 : Below w.heap.size w w1 := by rw [← hw1]; exact (Below.refl _ w).alloc (Nat.le_refl _) _
  have hh1 : w1.heap[w.heap.size]? = some (.cells (newerC s.t s.g0 s.g1 s.nx (.slice ua s.es.length uc)) 90) := by rw [← hw1]; exact heap_alloc_new _ _
  have hs1 : w1.heap.size = w.heap.size + 1 := by rw [← hw1]; simp [go_sem]
  obtain ⟨x0, x1, x2, x3, x4, _⟩ := five_cells hh1
  have HC := hid (stepN_good s ua la uc lc l w1 (h.below hb1) (hl.below hb1) hc h8 ht)
  have HIN := hid h
  have HB1 := hid hb1
  have HH1 := hid hh1
  have HS1 := hid hs1
  generalize stepN s l = T at HC hTI hTt hTn HWA HGO
  have HTI := hid hTI
  have HTT := hid hTt
  have hsel := hinv.el
  have hel := hTI.el
  have hnx0 := hinv.n0
  have hnx1 := hinv.n1
  clear h hl hc hb1 hh1 hs1 hinv hTI hTt
  go_enter Try.func10, Try.ntmps10
  go_wp2_with fail
  refine HC.out.mono ?_
  rintro e w2 ⟨uv, rfl, hre, hb2⟩
  obtain ⟨ea', ec', rfl, hecap, hrecs, _⟩ := hre.open
  have hr2 := (hb2.block w.heap.size (by rw [HS1.out]; omega)).trans HH1.out
  have HB2 : Hid (Below w.heap.size w w2) := HB1.out.trans (hb2.mono (by rw [HS1.out]; omega))
  have hs2 : w.heap.size < w2.heap.size := (Array.getElem?_eq_some_iff.1 hr2).1
  have HRE := hid hrecs
  have HR2 := hid hr2
  clear HC hb2 HB1 HH1 HS1 hre hrecs hr2 x0 x1 x2 x3 x4 hw1
  obtain ⟨V, hV⟩ : ∃ V, w2.alloc (.cells (newerC T.t T.g0 T.g1 T.nx (.slice ea' T.es.length ec')) 90) = V := ⟨_, rfl⟩
  have hbV : Below w2.heap.size w2 V := by rw [← hV]; exact (Below.refl _ _).alloc (Nat.le_refl _) _
  have hhV : V.heap[w2.heap.size]? = some (.cells (newerC T.t T.g0 T.g1 T.nx (.slice ea' T.es.length ec')) 90) := by rw [← hV]; exact heap_alloc_new _ _
  have hsV : w2.heap.size < V.heap.size := (Array.getElem?_eq_some_iff.1 hhV).1
  obtain ⟨x0, x1, x2, x3, x4, _⟩ := five_cells hhV
  have HBV : Hid (Below w.heap.size w V) := HB2.out.trans (hbV.mono (by omega))
  have HRV := hid (HRE.out.below hbV)
  have HHV := hid hhV
  have HSV : Hid (V.heap[w.heap.size]? = some (.cells (newerC s.t s.g0 s.g1 s.nx (.slice ua s.es.length uc)) 90)) := (hbV.block _ hs2).trans HR2.out
  have HCK := hid (checkNewer_calls T.t T.g0 T.g1 T.nx T.es ea' ec' V HRV.out)
  rw [check_of_invN HTI.out, errV_zero] at HCK
  clear hbV hhV HRE HR2 HB2
  go_wp2_with fail
  refine HCK.out.mono ?_
  rintro e w3 ⟨rfl, hb3⟩
  have hT3 := (hb3.block _ hsV).trans HHV.out
  have hS3 := (hb3.block w.heap.size (by omega)).trans HSV.out
  have HB3 : Hid (Below w.heap.size w w3) := HBV.out.trans (hb3.mono (by omega))
  have HR3 := hid (HRV.out.below hb3)
  have HT3 := hid hT3
  have HS3 := hid hS3
  clear HCK x0 x1 x2 x3 x4 hV HRV HHV HSV HBV hb3
  obtain ⟨x0, _, _, x3, x4, _⟩ := five_cells hT3
  obtain ⟨z0, _, _, z3, z4, _⟩ := five_cells hS3
  have hwr : IntKind.i64.wrap (s.t + 1) = s.t + 1 := IntWalk.i64_in _ ⟨by omega, by omega⟩
  have hwl : IntKind.i64.wrap (s.nx + (l.length : Int)) = s.nx + (l.length : Int) := IntWalk.i64_in _ ⟨by omega, by omega⟩
  have htk : (T.t != s.t + 1) = false := by rw [HTT.out]; simp
  have hn1 : ¬ T.nx < s.nx := by omega
  have hn2 : ¬ s.nx + (l.length : Int) < T.nx := by omega
  have HTN := hid hTn
  clear hT3 hS3 hTn
  go_wp2_with fail
  clear x0 x3 x4 z0 z3 z4 hwr hwl htk hn1 hn2
  go_loopw [7] (fun i wr => ∃ k : Nat, k ≤ T.es.length ∧ i = .int .i64 k ∧ Hid (Below w3.heap.size w3 wr)) (fun i _ => T.es.length - (intOf i).toNat)
  case atStart => exact ⟨0, Nat.zero_le _, rfl, Below.refl _ _⟩
  case round =>
    obtain ⟨k, hk, rfl, HBk⟩ := hrel
    obtain ⟨X, hX⟩ : ∃ X, X = wr := ⟨_, rfl⟩
    subst hX
    have hT := (HBk.out.block _ (Array.getElem?_eq_some_iff.1 HT3.out).1).trans HT3.out
    have hS := (HBk.out.block _ (Array.getElem?_eq_some_iff.1 HS3.out).1).trans HS3.out
    obtain ⟨_, _, _, _, x4, _⟩ := five_cells hT
    have HT := hid hT
    have HS := hid hS
    have hszr := HBk.out.size
    have hsz3 : w2.heap.size < w3.heap.size := (Array.getElem?_eq_some_iff.1 HT3.out).1
    by_cases hkl : k < T.es.length
    · have hkz : (k : Int) < (T.es.length : Int) := by omega
      obtain ⟨b, o, rfl, hc⟩ := (HR3.out.below HBk.out).at hkl
      have l0 : X.cell? ⟨b, o + k * 11, none⟩ = some (.int .i64 (fld (rec T.es k) 0)) := hc 0 (by omega)
      have l1 := hc 1 (by omega)
      have l2 := hc 2 (by omega)
      have l3 := hc 3 (by omega)
      have l4 := hc 4 (by omega)
      have l5 := hc 5 (by omega)
      have l6 := hc 6 (by omega)
      have l7 := hc 7 (by omega)
      have l8 := hc 8 (by omega)
      have l9 := hc 9 (by omega)
      have l10 := hc 10 (by omega)
      have HMEM := hid (rec_mem hkl)
      clear hc hT hS
      generalize rec T.es k = y at l0 l1 l2 l3 l4 l5 l6 l7 l8 l9 l10 HMEM
      obtain ⟨U, hU⟩ : ∃ U, X.alloc (.cells (unitC y) 110) = U := ⟨_, rfl⟩
      have hbU : Below X.heap.size X U := by rw [← hU]; exact (Below.refl _ _).alloc (Nat.le_refl _) _
      have hhU : U.heap[X.heap.size]? = some (.cells (unitC y) 110) := by rw [← hU]; exact heap_alloc_new _ _
      have HBU : Hid (Below w3.heap.size w3 U) := HBk.out.trans (hbU.mono (by omega))
      have HHU := hid hhU
      have HSU : Hid (U.heap[w.heap.size]? = some (.cells (newerC s.t s.g0 s.g1 s.nx (.slice ua s.es.length uc)) 90)) := (hbU.block w.heap.size (by omega)).trans HS.out
      have hsU : X.heap.size < U.heap.size := (Array.getElem?_eq_some_iff.1 hhU).1
      have HUU := hid hU
      clear hU
      go_upto_region 10 with fail
      rw [HUU.out]
      clear l0 l1 l2 l3 l4 l5 l6 l7 l8 l9 l10 hbU hhU x4 HT HS HBk HUU
      go_wp2
      go_loopw [9, 10] (fun came i wq => ∃ j : Nat, j ≤ s.es.length ∧ i = .int .i64 j ∧ came = .bool (wasN s.es y j) ∧ Hid (Below U.heap.size U wq)) (fun _ i _ => s.es.length - (intOf i).toNat)
      case atStart => exact ⟨0, Nat.zero_le _, rfl, by unfold wasN; simp, Below.refl _ _⟩
      case round =>
        obtain ⟨j, hj, rfl, rfl, HBj⟩ := hrel
        have hhy := (HBj.out.block _ hsU).trans HHU.out
        obtain ⟨z0, _, _, z3, z4, _⟩ := five_cells ((HBj.out.block w.heap.size (by omega)).trans HSU.out)
        have HBw : Hid (Below w.heap.size w wr) := HB3.out.trans ((HBU.out.trans (HBj.out.mono (by omega))).mono (by omega))
        have hyl : X.heap.size < wr.heap.size := (Array.getElem?_eq_some_iff.1 hhy).1
        by_cases hjl : j < s.es.length
        · have hjz2 : (j : Int) < (s.es.length : Int) := by omega
          have HNX := hid (wasN_next (e := y) hjl)
          have HOQ := hid (invN_on HIV.out (rec_mem hjl))
          have HOY := hid (invN_on HTI.out HMEM.out)
          obtain ⟨b2, o2, rfl, hc2⟩ := (HIN.out.rows.below HBw.out).at hjl
          have m0 : wr.cell? ⟨b2, o2 + j * 11, none⟩ = some (.int .i64 (fld (rec s.es j) 0)) := hc2 0 (by omega)
          have m1 := hc2 1 (by omega)
          have m2 := hc2 2 (by omega)
          have m3 := hc2 3 (by omega)
          have m4 := hc2 4 (by omega)
          have m5 := hc2 5 (by omega)
          have m6 := hc2 6 (by omega)
          have m7 := hc2 7 (by omega)
          have m8 := hc2 8 (by omega)
          have m9 := hc2 9 (by omega)
          have m10 := hc2 10 (by omega)
          clear hc2
          generalize rec s.es j = q at m0 m1 m2 m3 m4 m5 m6 m7 m8 m9 m10 HNX HOQ
          obtain ⟨Z, hZ⟩ : ∃ Z, wr.alloc (.cells (unitC q) 110) = Z := ⟨_, rfl⟩
          have hbZ : Below wr.heap.size wr Z := by rw [← hZ]; exact (Below.refl _ _).alloc (Nat.le_refl _) _
          have hhZ : Z.heap[wr.heap.size]? = some (.cells (unitC q) 110) := by rw [← hZ]; exact heap_alloc_new _ _
          have hhyZ := (hbZ.block _ hyl).trans hhy
          have q0 : Z.cell? ⟨wr.heap.size, 0, none⟩ = some (.int .i64 (fld q 0)) := cell_of_row Z _ 0 _ _ _ hhZ
          have q1 : Z.cell? ⟨wr.heap.size, 1, none⟩ = some (.int .i64 (fld q 1)) := cell_of_row Z _ 1 _ _ _ hhZ
          have q2 : Z.cell? ⟨wr.heap.size, 2, none⟩ = some (.int .i64 (fld q 2)) := cell_of_row Z _ 2 _ _ _ hhZ
          have q3 : Z.cell? ⟨wr.heap.size, 3, none⟩ = some (.int .i64 (fld q 3)) := cell_of_row Z _ 3 _ _ _ hhZ
          have q4 : Z.cell? ⟨wr.heap.size, 4, none⟩ = some (.int .i64 (fld q 4)) := cell_of_row Z _ 4 _ _ _ hhZ
          have q10 : Z.cell? ⟨wr.heap.size, 10, none⟩ = some (.int .i64 (fld q 10)) := cell_of_row Z _ 10 _ _ _ hhZ
          have y0 : Z.cell? ⟨X.heap.size, 0, none⟩ = some (.int .i64 (fld y 0)) := cell_of_row Z _ 0 _ _ _ hhyZ
          have y1 : Z.cell? ⟨X.heap.size, 1, none⟩ = some (.int .i64 (fld y 1)) := cell_of_row Z _ 1 _ _ _ hhyZ
          have y2 : Z.cell? ⟨X.heap.size, 2, none⟩ = some (.int .i64 (fld y 2)) := cell_of_row Z _ 2 _ _ _ hhyZ
          have y3 : Z.cell? ⟨X.heap.size, 3, none⟩ = some (.int .i64 (fld y 3)) := cell_of_row Z _ 3 _ _ _ hhyZ
          have y4 : Z.cell? ⟨X.heap.size, 4, none⟩ = some (.int .i64 (fld y 4)) := cell_of_row Z _ 4 _ _ _ hhyZ
          have y10 : Z.cell? ⟨X.heap.size, 10, none⟩ = some (.int .i64 (fld y 10)) := cell_of_row Z _ 10 _ _ _ hhyZ
          have HBZ : Hid (Below U.heap.size U Z) := HBj.out.trans (hbZ.mono HBj.out.size)
          have HZZ := hid hZ
          clear hbZ hhZ hhyZ hhy hZ z0 z3
          go_upto_region 15 with fail
          rw [HZZ.out]
          clear m0 m1 m2 m3 m4 m5 m6 m7 m8 m9 m10 z4 HZZ
          cases hcm : wasN s.es y j with
          | true =>
            rw [hcm, Bool.true_or] at HNX
            go_wp2
            go_roundw
            case rel => exact ⟨j + 1, by omega, by go_num, by rw [HNX.out], HBZ⟩
            case measure => simp [intOf]; omega
          | false =>
            rw [hcm, Bool.false_or] at HNX
            unfold likeN at HNX
            cases h0 : fld q 0 == fld y 0 with
            | false =>
              rw [h0, Bool.false_and] at HNX
              go_wp2
              go_roundw
              case rel => exact ⟨j + 1, by omega, by go_num, by rw [HNX.out], HBZ⟩
              case measure => simp [intOf]; omega
            | true =>
              rw [h0, Bool.true_and] at HNX
              cases h2 : fld q 2 == fld y 2 with
              | false =>
                rw [h2, Bool.false_and] at HNX
                go_wp2
                go_roundw
                case rel => exact ⟨j + 1, by omega, by go_num, by rw [HNX.out], HBZ⟩
                case measure => simp [intOf]; omega
              | true =>
                rw [h2, Bool.true_and] at HNX
                cases h1 : fld q 1 == fld y 1 with
                | false =>
                  rw [h1, Bool.false_and] at HNX
                  go_wp2
                  go_roundw
                  case rel => exact ⟨j + 1, by omega, by go_num, by rw [HNX.out], HBZ⟩
                  case measure => simp [intOf]; omega
                | true =>
                  rw [h1, Bool.true_and] at HNX
                  cases h10 : fld q 10 == fld y 10 with
                  | false =>
                    rw [h10, Bool.false_and] at HNX
                    go_wp2
                    go_roundw
                    case rel => exact ⟨j + 1, by omega, by go_num, by rw [HNX.out], HBZ⟩
                    case measure => simp [intOf]; omega
                  | true =>
                    rw [h10, Bool.true_and] at HNX
                    go_wp2_with fail
                    refine (far_calls _ _ _ _ HOQ.out HOY.out _).mono ?_
                    rintro e w9 ⟨rfl, rfl⟩
                    by_cases hf : Pl.farZ (fld q 3) (fld q 4) (fld y 3) (fld y 4) ≤ 1
                    · rw [decide_eq_true hf] at HNX
                      go_wp2
                      go_roundw
                      case rel => exact ⟨j + 1, by omega, by go_num, by rw [HNX.out], HBZ⟩
                      case measure => simp [intOf]; omega
                    · have HDF := hid (decide_eq_false hf)
                      go_wp2
                      go_roundw
                      case rel => exact ⟨j + 1, by omega, by go_num, by rw [HNX.out, HDF.out], HBZ⟩
                      case measure => simp [intOf]; omega
        · have hjz2 : ¬ (j : Int) < (s.es.length : Int) := by omega
          have hje : j = s.es.length := by omega
          subst hje
          have HB9 : Hid (Below w3.heap.size w3 wr) := HBU.out.trans (HBj.out.mono (by omega))
          have y0 : wr.cell? ⟨X.heap.size, 0, none⟩ = some (.int .i64 (fld y 0)) := cell_of_row wr _ 0 _ _ _ hhy
          have y10 : wr.cell? ⟨X.heap.size, 10, none⟩ = some (.int .i64 (fld y 10)) := cell_of_row wr _ 10 _ _ _ hhy
          clear hhy
          rcases HWA.out y HMEM.out with hwt | ⟨hge, hsince⟩
          · rw [hwt]
            go_wp2
            go_roundw
            case rel => exact ⟨k + 1, by omega, by go_num, HB9⟩
            case measure => simp [intOf]; omega
          · have hnlt : ¬ fld y 0 < s.nx := by omega
            have hne : (fld y 10 != s.t) = false := by rw [hsince]; simp
            clear hge hsince
            cases wasN s.es y s.es.length
            all_goals
              go_wp2
              go_roundw
              case rel => exact ⟨k + 1, by omega, by go_num, HB9⟩
              case measure => simp [intOf]; omega
    · have hkz : ¬ (k : Int) < (T.es.length : Int) := by omega
      have HBF : Hid (Below w.heap.size w X) := HB3.out.trans (HBk.out.mono (by omega))
      have hhpS : ∀ u ∈ s.es, 1 ≤ fld u 5 ∧ fld u 5 ≤ 1000 := fun u hu => by
        have hb := (boundsN_true (HIV.out.bd u hu)).2.2.1
        obtain ⟨i, hi, rfl⟩ := List.mem_iff_getElem.1 hu
        have h2 := (hpN HIV.out hi).2
        rw [rec_at hi] at h2
        omega
      have hhpT : ∀ u ∈ T.es, 1 ≤ fld u 5 ∧ fld u 5 ≤ 1000 := fun u hu => by
        have hb := (boundsN_true (HTI.out.bd u hu)).2.2.1
        obtain ⟨i, hi, rfl⟩ := List.mem_iff_getElem.1 hu
        have h2 := (hpN HTI.out hi).2
        rw [rec_at hi] at h2
        omega
      obtain ⟨a0, a1, a2, a3, a4, _⟩ := five_cells hS
      have HW1 := hid (wealth_calls s.t s.g0 s.g1 s.nx s.es ua uc X (by omega) (HIN.out.rows.below HBF.out) hhpS HIV.out.a0 HIV.out.a1)
      have hRX := HR3.out.below HBk.out
      have HRX := hid hRX
      have HON := hid (fun h => oreK_none hhpS h)
      have HPT := hid hhpT
      clear hT hS hRX hhpS hhpT
      go_wp2_with fail
      refine HW1.out.mono ?_
      rintro e w5 ⟨rfl, hb5⟩
      have hT5 := (hb5.block _ (by omega)).trans HT.out
      obtain ⟨b0, b1, b2, b3, b4, _⟩ := five_cells hT5
      have HW2 := hid (wealth_calls T.t T.g0 T.g1 T.nx T.es ea' ec' w5 (by omega) (HRX.out.below hb5) HPT.out HTI.out.a0 HTI.out.a1)
      have HB5 : Hid (Below w.heap.size w w5) := HBF.out.trans (hb5.mono (by omega))
      have hs5 := hb5.size
      clear a0 a1 a2 a3 a4 HW1 hb5 hT5
      go_wp2_with fail
      refine HW2.out.mono ?_
      rintro e w6 ⟨rfl, hb6⟩
      have HB6 : Hid (Below w.heap.size w w6) := HB5.out.trans (hb6.mono (by omega))
      clear b0 b1 b2 b3 b4 HW2 hb6
      by_cases hore : 0 < oreK s.es s.es.length
      · go_wp2
        go_ret
        exact ⟨rfl, HB6.out⟩
      · have hg := HGO.out (HON.out (by omega))
        have hore' : oreK s.es s.es.length ≤ 0 := by omega
        go_wp2
        go_ret
        exact ⟨rfl, HB6.out⟩
end Go.Proofs.Ytmnddahkbmlibaa
