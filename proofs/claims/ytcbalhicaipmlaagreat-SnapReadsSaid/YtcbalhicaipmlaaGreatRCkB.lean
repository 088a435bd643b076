/- Package snap: what is commanded, and may a tape be. -/
import Derived.Test.YtcbalhicaipmlaaGreatRNwK
import Derived.Test.YtcbalhicaipmlaaGreatRRefQ
import Derived.Test.YtcbalhicaipmlaaGreatRWire6
namespace Go.Proofs.YtcbalhicaipmlaaGreat
open Go.RowKit
theorem getD_mem {α : Type} {l : List α} {j : Nat} (h : j < l.length) (d : α) : l.getD j d ∈ l := by
  rw [List.getD_eq_getElem?_getD, List.getElem?_eq_getElem h]
  exact List.getElem_mem h
theorem negB_yes {k : Nat} {ls : List (List (List Int))} {j i : Nat} (hj : j < ls.length) (hi : i < (ls.getD j []).length) (h : negU k (rec (ls.getD j []) i) = true) : negB k ls = true := by
  unfold negB
  rw [List.any_eq_true]
  refine ⟨ls.getD j [], getD_mem hj _, ?_⟩
  rw [List.any_eq_true]
  exact ⟨rec (ls.getD j []) i, getD_mem hi _, h⟩
theorem negB_no {k : Nat} {ls : List (List (List Int))} (h : ∀ j, j < ls.length → ∀ i, i < (ls.getD j []).length → negU k (rec (ls.getD j []) i) = false) : negB k ls = false := by
  unfold negB
  rw [List.any_eq_false]
  intro l hl
  obtain ⟨j, hj, rfl⟩ := List.getElem_of_mem hl
  have e : ls.getD j [] = ls[j] := by rw [List.getD_eq_getElem?_getD, List.getElem?_eq_getElem hj]; rfl
  rw [Bool.not_eq_true, List.any_eq_false]
  intro u hu
  obtain ⟨i, hi, rfl⟩ := List.getElem_of_mem hu
  have := h j hj i (by rw [e]; exact hi)
  rw [e] at this
  have e2 : rec ls[j] i = ls[j][i] := by unfold rec; rw [List.getD_eq_getElem?_getD, List.getElem?_eq_getElem hi]; rfl
  rw [e2] at this
  rw [this]
  simp
def ckL (k : Nat) (t : Int) (ls : List (List (List Int))) : Nat := if (decide (60 - t < (ls.length : Int)) || tooM ls) = true then 2 else if negB k ls = true then 1 else 0
theorem ckT_ckL (k : Nat) (t : Int) (ls : List (List (List Int))) : ckT k 0 t ls = ckL k t ls := by unfold ckT ckL; rw [if_pos rfl]
theorem ckT_bad {k c : Nat} (h : c ≠ 0) (t : Int) (ls : List (List (List Int))) : ckT k c t ls = c := by unfold ckT; rw [if_neg h]
set_option maxRecDepth 100000 in
set_option maxHeartbeats 4000000 in
theorem checkTicks_calls (ls : List (List (List Int))) (ta : Option Addr) (tc : Nat) (t : Int) (w : World) (h0 : 0 ≤ t ∧ t ≤ 60) (hn : ls.length ≤ 1000) (ht : Tks w ta ls) :
    Calls Tryz.prog 37 #[.slice ta ls.length tc, .int .i64 t, .func (.func 38) #[] #[]] w fun e w' => e = .returned (errV (ckL 7 t ls)) ∧ Below w.heap.size w w' := by
  have eg : ∀ args w, (callFunc 38 args).run Tryz.prog w = .ok (.enter 38 args) w := enters_of Tryz.func38 (by kernel_rfl) rfl
  have hw : IntKind.i64.wrap (60 - t) = 60 - t := IntWalk.i64_in _ ⟨by omega, by omega⟩
  have HC := hid (tooMany_calls ls ta tc (60 - t) w hn ht)
  have HT := hid ht
  clear ht
  cases hm : (decide (60 - t < (ls.length : Int)) || tooM ls) with
  | true =>
    have HE : Hid (ckL 7 t ls = 2) := by show _ = _; unfold ckL; rw [if_pos hm]
    rw [hm] at HC
    rw [HE.out]
    show Calls _ _ _ _ fun e w' => e = .returned (.iface 86 (.int .i64 2)) ∧ Below w.heap.size w w'
    clear hm HE
    go_enter Tryz.func37, Tryz.ntmps37
    go_wp2_with fail
    refine HC.out.mono ?_
    rintro e w' ⟨rfl, rfl⟩
    clear HC
    go_wp2
    go_ret
    exact ⟨rfl, Below.refl _ _⟩
  | false =>
    have HE : Hid (ckL 7 t ls = if negB 7 ls = true then 1 else 0) := by show _ = _; unfold ckL; rw [hm]; rfl
    have h8 : ∀ j, j < ls.length → (ls.getD j []).length ≤ 8 := fun j hj => by
      rw [Bool.or_eq_false_iff] at hm
      exact Classical.byContradiction fun h => by
        have := tooM_yes hj (by omega)
        rw [hm.2] at this
        cases this
    have H8 := hid h8
    rw [hm] at HC
    clear hm h8
    go_enter Tryz.func37, Tryz.ntmps37
    go_wp2_with fail
    refine HC.out.mono ?_
    rintro e w' ⟨rfl, rfl⟩
    clear HC
    go_wp2
    go_loopw [18] (fun i wr => ∃ k : Nat, k ≤ ls.length ∧ i = .int .i64 k ∧ Hid (Below w'.heap.size w' wr) ∧ Hid (∀ j, j < k → ∀ i, i < (ls.getD j []).length → negU 7 (rec (ls.getD j []) i) = false)) (fun i _ => ls.length - (intOf i).toNat)
    case atStart => exact ⟨0, Nat.zero_le _, rfl, Below.refl _ _, fun j hj => absurd hj (Nat.not_lt_zero _)⟩
    case round =>
      obtain ⟨k, hk, rfl, HB, HA⟩ := hrel
      by_cases hlt : k < ls.length
      · have hltz : (k : Int) < (ls.length : Int) := by omega
        obtain ⟨b, o, la, lc, rfl, hc, hr⟩ := (HT.out.below HB.out).at hlt
        have hl8 := H8.out k hlt
        have HYES := hid (fun i hi h => @negB_yes 7 ls k i hlt hi h)
        have HNX : Hid ((∀ i, i < (ls.getD k []).length → negU 7 (rec (ls.getD k []) i) = false) → ∀ j, j < k + 1 → ∀ i, i < (ls.getD j []).length → negU 7 (rec (ls.getD j []) i) = false) := fun h j hj => by
          by_cases e : j = k
          · rw [e]; exact h
          · exact HA.out j (by omega)
        have HR := hid hr
        generalize ls.getD k [] = l at hc HR hl8 HYES HNX
        clear hr HA
        go_wp2
        clear hc
        go_loopw [24] (fun i wr => ∃ n : Nat, n ≤ l.length ∧ i = .int .i64 n ∧ Hid (Below w'.heap.size w' wr) ∧ Hid (Recs wr la 7 l) ∧ Hid (∀ j, j < n → negU 7 (rec l j) = false)) (fun i _ => l.length - (intOf i).toNat)
        case atStart => exact ⟨0, Nat.zero_le _, rfl, HB, HR, fun j hj => absurd hj (Nat.not_lt_zero _)⟩
        case round =>
          clear HB HR
          obtain ⟨n, hnl, rfl, HB, HR, HA⟩ := hrel
          by_cases hn2 : n < l.length
          · have hnz : (n : Int) < (l.length : Int) := by omega
            obtain ⟨b2, o2, rfl, hcs⟩ := HR.out.at hn2
            have l0 : wr.cell? ⟨b2, o2 + n * 7, none⟩ = some (.int .i64 (fld (rec l n) 0)) := hcs 0 (by omega)
            have l1 := hcs 1 (by omega)
            have l2 := hcs 2 (by omega)
            have l3 := hcs 3 (by omega)
            have l4 := hcs 4 (by omega)
            have l5 := hcs 5 (by omega)
            have l6 := hcs 6 (by omega)
            have HY := hid (HYES.out n hn2)
            have HN1 : Hid (negU 7 (rec l n) = false → ∀ j, j < n + 1 → negU 7 (rec l j) = false) := fun h j hj => by
              by_cases e : j = n
              · rw [e]; exact h
              · exact HA.out j (by omega)
            generalize rec l n = q at l0 l1 l2 l3 l4 l5 l6 HY HN1
            clear hcs HA
            have hbx : Below wr.heap.size wr (wr.alloc (.cells (cmdC q) 85)) := (Below.refl _ _).alloc (Nat.le_refl _) _
            have HBX := hid hbx
            clear hbx
            go_wp2_with fail
            refine (cmdNumbers_calls q _).mono ?_
            rintro e w3 ⟨g, rfl, hg, hb3⟩
            have HB3 : Hid (Below wr.heap.size wr w3) := HBX.out.trans (hb3.mono HBX.out.size)
            have HG := hid hg
            clear hb3 hg HBX l0 l1 l2 l3 l4 l5 l6
            have HMC := hid (min_calls 7 (by omega) (by omega) q g w3 HG.out)
            go_wp2_with fail
            refine HMC.out.mono ?_
            rintro e w4 ⟨m, rfl, hm, rfl⟩
            clear HMC HG
            have HB4 : Hid (Below w'.heap.size w' w4) := HB.out.trans (HB3.out.mono HB.out.size)
            have HR4 := hid (HR.out.below HB3.out)
            by_cases hm0 : m < 0
            · rw [decide_eq_true hm0] at hm
              have HZ : Hid (ckL 7 t ls = 1) := by
                show _ = _
                rw [HE.out, HY.out hm.symm]
                rfl
              clear hm HE HY HN1
              go_wp2
              go_ret
              exact ⟨by rw [HZ.out]; rfl, HB4.out⟩
            · rw [decide_eq_false hm0] at hm
              have HN2 := hid (HN1.out hm.symm)
              clear hm HY HN1 HB HR
              go_wp2
              go_roundw
              case rel => exact ⟨n + 1, by omega, by go_num, HB4, HR4, HN2⟩
              case measure => simp [intOf]; omega
          · have hnz : ¬ (n : Int) < (l.length : Int) := by omega
            have HN := hid (HNX.out (fun i hi => HA.out i (by omega)))
            clear HA HNX
            go_wp2
            go_roundw
            case rel => exact ⟨k + 1, by omega, by go_num, HB, HN⟩
            case measure => simp [intOf]; omega
      · have hltz : ¬ (k : Int) < (ls.length : Int) := by omega
        have HZ : Hid (ckL 7 t ls = 0) := by
          show _ = _
          rw [HE.out, negB_no (fun j hj i hi => HA.out j (by omega) i hi)]
          rfl
        clear HA HE
        go_wp2
        go_ret
        exact ⟨by rw [HZ.out]; rfl, HB.out⟩
set_option maxRecDepth 100000 in
set_option maxHeartbeats 4000000 in
theorem checkTape_calls (s : St) (fa ea ta : Option Addr) (fc ec tc : Nat) (ls : List (List (List Int))) (w : World) (h : InE w s fa ea fc ec) (hn : ls.length ≤ 1000) (ht : Tks w ta ls) :
    Calls Tryz.prog 11 #[tapeV s.t s.g0 s.g1 s.nx (.slice fa s.free.length fc) (.slice ea s.es.length ec) (.slice ta ls.length tc)] w fun e w' => e = .returned (errV (ckT 7 (checkE s.t s.g0 s.g1 s.nx s.free s.es) s.t ls)) ∧ Below w.heap.size w w' := by
  obtain ⟨W, hW⟩ : ∃ W, w.alloc (.cells (tapeC s.t s.g0 s.g1 s.nx (.slice fa s.free.length fc) (.slice ea s.es.length ec) (.slice ta ls.length tc)) 29) = W := ⟨_, rfl⟩
  have hbW : Below w.heap.size w W := by rw [← hW]; exact (Below.refl _ w).alloc (Nat.le_refl _) _
  have hh : W.heap[w.heap.size]? = some (.cells (tapeC s.t s.g0 s.g1 s.nx (.slice fa s.free.length fc) (.slice ea s.es.length ec) (.slice ta ls.length tc)) 29) := by rw [← hW]; exact heap_alloc_new w _
  have x0 : W.cell? ⟨w.heap.size, 0, none⟩ = some (.int .i64 s.t) := cell_of_row W _ 0 _ _ _ hh
  have x1 : W.cell? ⟨w.heap.size, 1, none⟩ = some (.int .i64 s.g0) := cell_of_row W _ 1 _ _ _ hh
  have x2 : W.cell? ⟨w.heap.size, 2, none⟩ = some (.int .i64 s.g1) := cell_of_row W _ 2 _ _ _ hh
  have x3 : W.cell? ⟨w.heap.size, 3, none⟩ = some (.int .i64 s.nx) := cell_of_row W _ 3 _ _ _ hh
  have x4 : W.cell? ⟨w.heap.size, 4, none⟩ = some (.slice fa s.free.length fc) := cell_of_row W _ 4 _ _ _ hh
  have x5 : W.cell? ⟨w.heap.size, 5, none⟩ = some (.slice ea s.es.length ec) := cell_of_row W _ 5 _ _ _ hh
  have hin := h.below hbW
  have HC := hid (check_calls s.t s.g0 s.g1 s.nx s.free fa ea fc ec s.es W h.cap hin.rows hin.nums h.wf)
  have HBW := hid hbW
  have HH := hid hh
  have HT := hid (ht.below hbW)
  have hsz : w.heap.size < W.heap.size := (Array.getElem?_eq_some_iff.1 hh).1
  clear h hin hbW hh ht
  by_cases hc : checkE s.t s.g0 s.g1 s.nx s.free s.es = 0
  · have hI := inv_of_check hc
    have ht0 := hI.t0
    have ht1 := hI.t1
    rw [hc, errV_zero] at HC
    rw [hc, ckT_ckL]
    clear hI hc
    go_enter Tryz.func11, Tryz.ntmps11
    go_wp2_with fail
    refine HC.out.mono ?_
    rintro e w2 ⟨rfl, hb2⟩
    have hq := (hb2.block _ hsz).trans HH.out
    have y0 : w2.cell? ⟨w.heap.size, 0, none⟩ = some (.int .i64 s.t) := cell_of_row w2 _ 0 _ _ _ hq
    have y6 : w2.cell? ⟨w.heap.size, 6, none⟩ = some (.slice ta ls.length tc) := cell_of_row w2 _ 6 _ _ _ hq
    have HB2 : Hid (Below w.heap.size w w2) := HBW.out.trans (hb2.mono (by omega))
    have HCT := hid (checkTicks_calls ls ta tc s.t w2 ⟨by omega, by omega⟩ hn (HT.out.below hb2))
    clear HC hb2 hq x0 x1 x2 x3 x4 x5 hW
    go_wp2_with fail
    refine HCT.out.mono ?_
    rintro e w3 ⟨rfl, hb3⟩
    have HB3 : Hid (Below w.heap.size w w3) := HB2.out.trans (hb3.mono HB2.out.size)
    clear HCT hb3 y0 y6
    obtain ⟨v, hv⟩ : ∃ v, errV (ckL 7 s.t ls) = v := ⟨_, rfl⟩
    have HV := hid hv
    rw [hv]
    clear hv
    go_wp2
    go_ret
    exact ⟨by rw [HV.out]; rfl, HB3.out⟩
  · rw [ckT_bad hc]
    rw [errV_some hc] at HC ⊢
    generalize checkE s.t s.g0 s.g1 s.nx s.free s.es = n at HC
    clear hc
    go_enter Tryz.func11, Tryz.ntmps11
    go_wp2_with fail
    refine HC.out.mono ?_
    rintro e w2 ⟨rfl, hb2⟩
    have HB2 : Hid (Below w.heap.size w w2) := HBW.out.trans (hb2.mono (by omega))
    clear HC hb2 x0 x1 x2 x3 x4 x5 hW
    go_wp2
    go_ret
    exact ⟨rfl, HB2.out⟩
end Go.Proofs.YtcbalhicaipmlaaGreat
