/- The law TopLeast: its walk. -/
import Derived.Deep.DeepCutAuto
import Derived.Test.YtgiieepfhohmhabTSiB
namespace Go.Proofs.Ytgiieepfhohmhab
open Go.RowKit
theorem take_zAt (l : List Int) {n j : Nat} (h : j < n) : zAt (l.take n) j = zAt l j := by
  unfold zAt
  rw [List.getD_eq_getElem?_getD, List.getD_eq_getElem?_getD, List.getElem?_take, if_pos h]
theorem Marks.take {w : World} {a : Option Addr} {zs : List Int} (h : Marks w a zs) (n : Nat) : Marks w a (zs.take n) := by
  rcases h with h | ⟨b, o, e, hc⟩
  · exact Or.inl (by rw [h, List.take_nil])
  · refine Or.inr ⟨b, o, e, fun i hi => ?_⟩
    rw [List.length_take] at hi
    rw [take_zAt zs (show i < n by omega)]
    exact hc i (by omega)
theorem fstK_eq : ∀ (xs ys : List Int) (j : Nat), j < fstK xs ys → zAt xs j = zAt ys j
  | [], _, j, h => by simp [fstK] at h
  | _ :: _, [], j, h => by simp [fstK] at h
  | x :: xs, y :: ys, j, h => by
    unfold fstK at h
    split at h
    next e =>
      cases j with
      | zero => simpa [zAt] using e
      | succ j =>
        have := fstK_eq xs ys j (by omega)
        simpa [zAt] using this
    · exact absurd h (Nat.not_lt_zero _)
theorem find_first {n p : Nat} {xs ys : List Int} {a : Int} {k : Nat} {f : Bool} (hn : 1 ≤ n) (hp : p ≤ n) (he : ∀ j, j < p → zAt xs j = zAt ys j) (hd : ∀ j, p ≤ j → j < n → zAt xs j ≠ zAt ys j) (hF : FindOk n (fun i => zAt xs i.toNat != zAt ys i.toNat) a k f) :
    (f = decide (p < n)) ∧ (f = true → a = p) := by
  have hLs : ∀ j : Nat, (fun i : Int => zAt xs i.toNat != zAt ys i.toNat) (j : Int) = true → j < n → p ≤ j := fun j h hj => by
    apply Classical.byContradiction
    intro hlt
    have := he j (by omega)
    simp only [Int.toNat_natCast, bne_iff_ne] at h
    exact h this
  by_cases hpn : p < n
  · have hlast : (fun i : Int => zAt xs i.toNat != zAt ys i.toNat) ((n : Int) - 1) = true := by
      have := hd (n - 1) (by omega) (by omega)
      simp only [bne_iff_ne]
      rw [show ((n : Int) - 1).toNat = n - 1 by omega]
      exact this
    obtain ⟨hf, ⟨ha0, ha1⟩, hLa, hLb, _, _⟩ := hF.hit (by omega) hlast
    refine ⟨by rw [hf, decide_eq_true hpn], fun _ => ?_⟩
    obtain ⟨j, rfl⟩ := Int.eq_ofNat_of_zero_le ha0
    have h1 := hLs j hLa (by omega)
    by_cases h0 : j = 0
    · omega
    · have h2 := hLb (by omega)
      rw [show ((j : Int) - 1) = ((j - 1 : Nat) : Int) by omega] at h2
      simp only [Int.toNat_natCast, bne_eq_false_iff_eq] at h2
      have h3 : j - 1 < p := Classical.byContradiction fun h => hd (j - 1) (by omega) (by omega) h2
      omega
  · have hlast : (fun i : Int => zAt xs i.toNat != zAt ys i.toNat) ((n : Int) - 1) = false := by
      simp only [bne_eq_false_iff_eq]
      rw [show ((n : Int) - 1).toNat = n - 1 by omega]
      exact he (n - 1) (by omega)
    obtain ⟨_, _, hf⟩ := hF.last (by omega) hlast
    exact ⟨by rw [hf, decide_eq_false hpn], fun h => by rw [hf] at h; cases h⟩
theorem two_boxes {w W : World} {a b : Array Value} {t : TypeId} (hW : (w.alloc (.cells a t)).alloc (.cells b t) = W) : Below w.heap.size w W ∧ W.heap.size = w.heap.size + 2 ∧ W.heap[w.heap.size]? = some (.cells a t) ∧ W.heap[w.heap.size + 1]? = some (.cells b t) := by
  refine ⟨?_, ?_, ?_, ?_⟩
  · rw [← hW]; exact ((Below.refl _ w).alloc (Nat.le_refl _) _).alloc (by simp [go_sem]) _
  · rw [← hW]; simp [go_sem]
  · rw [← hW, heap_alloc_old _ _ (by simp [go_sem])]
    exact heap_alloc_new w _
  · have e : w.heap.size + 1 = (w.alloc (.cells a t)).heap.size := by simp [go_sem]
    rw [← hW, e]
    exact heap_alloc_new _ _
set_option maxRecDepth 100000 in
set_option maxHeartbeats 8000000 in
theorem topLeast_calls (s : St) (fa ea ta : Option Addr) (fc ec tc : Nat) (ls : List (List (List Int))) (S : St) (fb eb tb : Option Addr) (fd ed td : Nat) (ms : List (List (List Int))) (w : World)
    (h : InE w s fa ea fc ec) (ht : Tks w ta ls) (htc : ls.length ≤ tc) (h' : InE w S fb eb fd ed) (ht' : Tks w tb ms) (htc' : ms.length ≤ td) :
    Calls Try.prog 4 #[tapeV s.t s.g0 s.g1 s.nx (.slice fa s.free.length fc) (.slice ea s.es.length ec) (.slice ta ls.length tc), tapeV S.t S.g0 S.g1 S.nx (.slice fb S.free.length fd) (.slice eb S.es.length ed) (.slice tb ms.length td)] w fun e w' => e = .returned (.bool true) ∧ Below w.heap.size w w' := by
  obtain ⟨W, hW⟩ : ∃ W, (w.alloc (.cells (tapeC s.t s.g0 s.g1 s.nx (.slice fa s.free.length fc) (.slice ea s.es.length ec) (.slice ta ls.length tc)) 39)).alloc (.cells (tapeC S.t S.g0 S.g1 S.nx (.slice fb S.free.length fd) (.slice eb S.es.length ed) (.slice tb ms.length td)) 39) = W := ⟨_, rfl⟩
  obtain ⟨hbW, hsW, hh0, hh1⟩ := two_boxes hW
  have HIN := hid (h.below hbW)
  have HIN' := hid (h'.below hbW)
  have HT := hid (ht.below hbW)
  have HT' := hid (ht'.below hbW)
  have HBW := hid hbW
  have HSW := hid hsW
  have H0 := hid hh0
  have H1 := hid hh1
  have HWE := hid hW
  obtain ⟨Y, hY⟩ : ∃ Y, (W.alloc (.cells #[.int .u64 1] 30)).alloc (.cells #[.int .u64 2] 30) = Y := ⟨_, rfl⟩
  have hbY : Below W.heap.size W Y := by rw [← hY]; exact ((Below.refl _ W).alloc (Nat.le_refl _) _).alloc (by simp [go_sem]) _
  have hm1 : Marks Y (some ⟨w.heap.size + 1 + 1, 0, none⟩) [1] := by
    have := (marks_one W 1 30).below (W := Y) (by rw [← hY]; exact (Below.refl _ _).alloc (Nat.le_refl _) _)
    rw [hsW] at this
    exact this
  have hm2 : Marks Y (some ⟨w.heap.size + 1 + 1 + 1, 0, none⟩) [2] := by
    have e : (W.alloc (.cells #[.int .u64 1] 30)).heap.size = w.heap.size + 1 + 1 + 1 := by simp [go_sem, hsW]
    have := marks_one (W.alloc (.cells #[.int .u64 1] 30)) 2 30
    rw [hY, e] at this
    exact this
  have HFS : Hid (Calls Try.prog 8 #[.slice (some ⟨w.heap.size + 1 + 1, 0, none⟩) 1 1, .slice (some ⟨w.heap.size + 1 + 1 + 1, 0, none⟩) 1 1] Y fun e w' => e = .returned (.tuple #[.int .i64 0, .bool true]) ∧ Below Y.heap.size Y w') := first_calls [1] [2] _ _ 1 1 Y (by simp) (by simp) hm1 hm2
  have HBY := hid hbY
  have HYE := hid hY
  have hs0 : w.heap.size < W.heap.size := by omega
  have hs1 : w.heap.size + 1 < W.heap.size := by omega
  clear h h' ht ht' hbW hsW hh0 hh1 hW hbY hm1 hm2 hY
  go_enter Try.func4, Try.ntmps4
  go_wp2_with fail
  rw [HWE.out, HYE.out]
  refine HFS.out.mono ?_
  rintro e w2 ⟨rfl, hb2⟩
  have HB2 : Hid (Below W.heap.size W w2) := HBY.out.trans (hb2.mono HBY.out.size)
  clear HFS hb2 HBY HYE HWE
  have HN : Hid (∀ V, Below W.heap.size W V → Below w.heap.size w V) := fun V hV => HBW.out.trans (hV.mono (by omega))
  obtain ⟨x0, x1, x2, x3, x4, x5, x6⟩ := tape_cells ((HB2.out.block _ hs0).trans H0.out)
  go_wp2_with fail
  refine (lightTape_calls s fa ea ta fc ec tc ls w2 (HT.out.below HB2.out)).mono ?_
  rintro e w3 ⟨b1, rfl, hl1, hb3⟩
  have HB3 : Hid (Below W.heap.size W w3) := HB2.out.trans (hb3.mono HB2.out.size)
  clear x0 x1 x2 x3 x4 x5 x6 hb3 HB2
  cases b1 with
  | false =>
    go_wp2
    go_ret
    exact ⟨rfl, HN.out _ HB3.out⟩
  | true =>
  have hl1 := (hl1 rfl).1
  obtain ⟨x0, x1, x2, x3, x4, x5, x6⟩ := tape_cells ((HB3.out.block _ hs1).trans H1.out)
  go_wp2_with fail
  refine (lightTape_calls S fb eb tb fd ed td ms w3 (HT'.out.below HB3.out)).mono ?_
  rintro e w4 ⟨b2, rfl, hl2, hb4⟩
  have HB4 : Hid (Below W.heap.size W w4) := HB3.out.trans (hb4.mono HB3.out.size)
  clear x0 x1 x2 x3 x4 x5 x6 hb4 HB3
  cases b2 with
  | false =>
    go_wp2
    go_ret
    exact ⟨rfl, HN.out _ HB4.out⟩
  | true =>
  have hl2 := (hl2 rfl).1
  obtain ⟨x0, x1, x2, x3, x4, x5, x6⟩ := tape_cells ((HB4.out.block _ hs0).trans H0.out)
  go_wp2_with fail
  refine (checkTape_calls s fa ea ta fc ec tc ls w4 (HIN.out.below HB4.out) (by omega) (HT.out.below HB4.out)).mono ?_
  rintro e w5 ⟨rfl, hb5⟩
  have HB5 : Hid (Below W.heap.size W w5) := HB4.out.trans (hb5.mono HB4.out.size)
  clear x0 x1 x2 x3 x4 x5 x6 hb5 HB4
  generalize ckT 7 (checkE s.t s.g0 s.g1 s.nx s.free s.es) s.t ls = c1
  by_cases hc1 : c1 = 0
  case neg =>
    rw [errV_some hc1]
    clear hc1
    go_wp2
    go_ret
    exact ⟨rfl, HN.out _ HB5.out⟩
  rw [hc1, errV_zero]
  obtain ⟨x0, x1, x2, x3, x4, x5, x6⟩ := tape_cells ((HB5.out.block _ hs1).trans H1.out)
  go_wp2_with fail
  refine (checkTape_calls S fb eb tb fd ed td ms w5 (HIN'.out.below HB5.out) (by omega) (HT'.out.below HB5.out)).mono ?_
  rintro e w6 ⟨rfl, hb6⟩
  have HB6 : Hid (Below W.heap.size W w6) := HB5.out.trans (hb6.mono HB5.out.size)
  clear x0 x1 x2 x3 x4 x5 x6 hb6 HB5
  generalize ckT 7 (checkE S.t S.g0 S.g1 S.nx S.free S.es) S.t ms = c2
  by_cases hc2 : c2 = 0
  case neg =>
    rw [errV_some hc2]
    clear hc2
    go_wp2
    go_ret
    exact ⟨rfl, HN.out _ HB6.out⟩
  rw [hc2, errV_zero]
  obtain ⟨x0, x1, x2, x3, x4, x5, x6⟩ := tape_cells ((HB6.out.block _ hs0).trans H0.out)
  go_wp2_with fail
  refine (marks_calls s fa ea ta fc ec tc ls w6 (HIN.out.below HB6.out) (HT.out.below HB6.out) htc (by omega)).mono ?_
  rintro e w7 ⟨v1, zs1, rfl, hz1, hm1, hb7⟩
  have HB7 : Hid (Below W.heap.size W w7) := HB6.out.trans (hb7.mono HB6.out.size)
  obtain ⟨xa, xc, rfl, hxc, hX, hgx⟩ := hm1.open
  have HX := hid hX
  have HZ1 := hid hz1
  have hx1 : zs1.length ≤ 71 := by omega
  have hx0 : 1 ≤ zs1.length := by omega
  clear x0 x1 x2 x3 x4 x5 x6 hb7 HB6 hm1 hX hgx hz1
  obtain ⟨U, hU⟩ : ∃ U, w7.alloc (.cells #[.slice xa zs1.length xc] 23) = U := ⟨_, rfl⟩
  have hbU : Below w7.heap.size w7 U := by rw [← hU]; exact (Below.refl _ _).alloc (Nat.le_refl _) _
  have hhU : U.heap[w7.heap.size]? = some (.cells #[.slice xa zs1.length xc] 23) := by rw [← hU]; exact heap_alloc_new _ _
  have HBU : Hid (Below W.heap.size W U) := HB7.out.trans (hbU.mono HB7.out.size)
  have HXU := hid (HX.out.below hbU)
  have HHU := hid hhU
  have HUE := hid hU
  obtain ⟨x0, x1, x2, x3, x4, x5, x6⟩ := tape_cells ((HBU.out.block _ hs1).trans H1.out)
  clear hbU hhU hU HX HB7
  go_upto_region 7 with fail
  rw [HUE.out]
  clear HUE
  go_wp2_with fail
  refine (marks_calls S fb eb tb fd ed td ms U (HIN'.out.below HBU.out) (HT'.out.below HBU.out) htc' (by omega)).mono ?_
  rintro e w8 ⟨v2, zs2, rfl, hz2, hm2, hb8⟩
  have HB8 : Hid (Below W.heap.size W w8) := HBU.out.trans (hb8.mono HBU.out.size)
  obtain ⟨ya, yc, rfl, hyc, hY2, hgy⟩ := hm2.open
  have HX8 := hid (HXU.out.below hb8)
  have HH8 := hid ((hb8.block _ (Array.getElem?_eq_some_iff.1 HHU.out).1).trans HHU.out)
  have hy1 : zs2.length ≤ 71 := by omega
  have hy0 : 1 ≤ zs2.length := by omega
  have hne8 : w7.heap.size < w8.heap.size := Nat.lt_of_lt_of_le (Array.getElem?_eq_some_iff.1 HHU.out).1 hb8.size
  obtain ⟨V, hV⟩ : ∃ V, w8.alloc (.cells #[.slice ya zs2.length yc] 23) = V := ⟨_, rfl⟩
  have hbV : Below w8.heap.size w8 V := by rw [← hV]; exact (Below.refl _ _).alloc (Nat.le_refl _) _
  have hhV : V.heap[w8.heap.size]? = some (.cells #[.slice ya zs2.length yc] 23) := by rw [← hV]; exact heap_alloc_new _ _
  have HBV : Hid (Below W.heap.size W V) := HB8.out.trans (hbV.mono HB8.out.size)
  have HXV := hid (HX8.out.below hbV)
  have HYV := hid (hY2.below hbV)
  have hhA := (hbV.block _ hne8).trans HH8.out
  have HA := hid hhA
  have HB := hid hhV
  have ca : V.cell? ⟨w7.heap.size, 0, none⟩ = some (.slice xa zs1.length xc) := cell_of_row V _ 0 _ _ _ hhA
  have cb : V.cell? ⟨w8.heap.size, 0, none⟩ = some (.slice ya zs2.length yc) := cell_of_row V _ 0 _ _ _ hhV
  have HVE := hid hV
  clear hbV hhV hV hhA HX8 HH8 HXU HHU HBU hb8 hm2 hY2 hgy hz2 x0 x1 x2 x3 x4 x5 x6 HB8 HT HT' HIN HIN' H0 H1 HZ1
  obtain ⟨n, hn⟩ : ∃ n : Nat, min zs1.length zs2.length = n := ⟨_, rfl⟩
  have hn1 : n ≤ zs1.length := by omega
  have hn2 : n ≤ zs2.length := by omega
  have hn0 : 1 ≤ n := by omega
  have HNE := hid hn
  clear hn
  go_upto_region 8 with fail
  rw [HVE.out]
  clear HVE
  generalize w7.heap.size = ba at *
  generalize w8.heap.size = bb at *
  go_cut [9] (fun r wx => r = .int .i64 n ∧ Hid (wx = V))
  case first =>
    have E9 : Hid (min (zs1.length : Int) (zs2.length : Int) = (n : Int)) := by show _ = _; have := HNE.out; omega
    go_wp2
    go_meet
    exact ⟨by rw [E9.out], hid rfl⟩
  case rest =>
  obtain ⟨rfl, hwc⟩ := hcut
  have hwe : wc = V := hwc.out
  subst hwe
  clear hwc
  have ln1 : (zs1.take n).length = n := by rw [List.length_take]; omega
  have ln2 : (zs2.take n).length = n := by rw [List.length_take]; omega
  have HFQ := hid (fun (Q : World) (hQ : Below wc.heap.size wc Q) => firstQ_calls (zs1.take n) (zs2.take n) xa ya xc yc Q (by omega) (by omega) ((HXV.out.take n).below hQ) ((HYV.out.take n).below hQ))
  rw [ln1, ln2] at HFQ
  have hk1 : (n : Int) ≤ (xc : Int) := by omega
  have hk2 : (n : Int) ≤ (yc : Int) := by omega
  obtain ⟨p, hp⟩ : ∃ p, fstK (zs1.take n) (zs2.take n) = p := ⟨_, rfl⟩
  have hple : p ≤ n := by
    have := (fstK_le (zs1.take n) (zs2.take n)).1
    omega
  have hse : someK (zs1.take n) (zs2.take n) = decide (p < n) := by
    unfold someK
    rw [hp, ln1, ln2]
    exact decide_eq_decide.2 ⟨fun h => h.elim id id, Or.inl⟩
  have HEQ : Hid (∀ j, j < p → zAt zs1 j = zAt zs2 j) := fun j hj => by
    have := fstK_eq (zs1.take n) (zs2.take n) j (by omega)
    rw [take_zAt zs1 (show j < n by omega), take_zAt zs2 (show j < n by omega)] at this
    exact this
  rw [hp, hse] at HFQ
  obtain ⟨d, hd⟩ : ∃ d, decide (p < n) = d := ⟨_, rfl⟩
  rw [hd] at HFQ
  have HD := hid hd
  clear hp hse ln1 ln2 hd
  have eg : ∀ args w, (callFunc 12 args).run Try.prog w = .ok (.enter 12 args) w := enters_of Try.func12 (by kernel_rfl) rfl
  have HFI : Hid (∀ Q, Below wc.heap.size wc Q → Calls Try.prog 6 #[.int .i64 n, .func (.func 12) #[] #[.pointer (some ⟨ba, 0, none⟩), .pointer (some ⟨bb, 0, none⟩)]] Q (FindP n (fun i => zAt zs1 i.toNat != zAt zs2 i.toNat) (fun _ W => Below wc.heap.size wc W))) := fun Q hQ =>
    find_calls 12 #[.pointer (some ⟨ba, 0, none⟩), .pointer (some ⟨bb, 0, none⟩)] eg n (fun i => zAt zs1 i.toNat != zAt zs2 i.toNat) (fun _ W => Below wc.heap.size wc W) Q (by omega) hQ
      (fun _ W i _ h0 h1 hI => topLeast1_calls wc ba bb xa ya zs1.length zs2.length xc yc zs1 zs2 rfl rfl n (by omega) (by omega) HA.out HB.out HXV.out HYV.out W i h0 h1 hI)
  clear eg
  cases d
  all_goals
    go_wp2_with fail
    go_quiet ((go_at_call 8; exact Calls.quiet_of (HFQ.out _ (belowL_drewN (Below.refl _ _) _))))
    go_wp2
    clear HFQ
    go_loopw [12] (fun i wr => ∃ k : Nat, (p ≤ k ∧ k ≤ n) ∧ i = .int .i64 k ∧ Hid (Below wc.heap.size wc wr) ∧ Hid (∀ j, p ≤ j → j < k → zAt zs1 j ≠ zAt zs2 j)) (fun i _ => n - (intOf i).toNat)
    case atStart => exact ⟨p, ⟨Nat.le_refl _, hple⟩, rfl, belowL_drewN (Below.refl _ _) _, fun j h1 h2 => absurd h2 (by omega)⟩
    case round =>
      obtain ⟨k, ⟨hpk, hkn⟩, rfl, HBr, HDF⟩ := hrel
      have ca' : wr.cell? ⟨ba, 0, none⟩ = some (.slice xa zs1.length xc) := cell_of_row wr _ 0 _ _ _ ((HBr.out.block _ (Array.getElem?_eq_some_iff.1 HA.out).1).trans HA.out)
      have cb' : wr.cell? ⟨bb, 0, none⟩ = some (.slice ya zs2.length yc) := cell_of_row wr _ 0 _ _ _ ((HBr.out.block _ (Array.getElem?_eq_some_iff.1 HB.out).1).trans HB.out)
      by_cases hk : k < n
      · have hkz : (k : Int) < (n : Int) := by omega
        have hzx : (k : Int) < (zs1.length : Int) := by omega
        have hzy : (k : Int) < (zs2.length : Int) := by omega
        obtain ⟨b, o, rfl, lx⟩ := (HXV.out.below HBr.out).at (show k < zs1.length by omega)
        obtain ⟨b', o', rfl, ly⟩ := (HYV.out.below HBr.out).at (show k < zs2.length by omega)
        have HN2 : Hid (zAt zs1 k ≠ zAt zs2 k → ∀ j, p ≤ j → j < k + 1 → zAt zs1 j ≠ zAt zs2 j) := fun h j h1 h2 => by
          by_cases e : j = k
          · rw [e]; exact h
          · exact HDF.out j h1 (by omega)
        generalize zAt zs1 k = q at lx HN2
        generalize zAt zs2 k = r at ly HN2
        clear HDF
        by_cases he : q = r
        · have hbe : (q == r) = true := by rw [he]; simp
          clear he
          go_wp2_with fail
          go_quiet (fail)
          go_wp2
          go_ret
          exact ⟨rfl, HN.out _ (HBV.out.trans ((belowL_drewN HBr.out _).mono HBV.out.size))⟩
        · have hbe : (q == r) = false := by simpa using he
          have HN3 := hid (HN2.out he)
          clear he HN2
          go_wp2_with fail
          go_quiet (fail)
          go_wp2
          go_roundw
          case rel => exact ⟨k + 1, ⟨by omega, by omega⟩, by go_num, belowL_drewN HBr.out _, HN3⟩
          case measure => simp [intOf]; omega
      · have hkz : ¬ (k : Int) < (n : Int) := by omega
        have hke : k = n := by omega
        subst hke
        have HFF := hid (fun a c f => @find_first k p zs1 zs2 a c f hn0 hple HEQ.out HDF.out)
        have HC := hid (HFI.out wr HBr.out)
        clear HDF HFI hk
        go_wp2_with fail
        refine HC.out.mono ?_
        rintro e w9 ⟨a, c, f, rfl, hF, hb9⟩
        have hff := HFF.out a c f hF
        rw [HD.out] at hff
        have HB9 := hid hb9
        clear HC HFF hF hb9
        first
          | (obtain ⟨rfl, _⟩ : f = false ∧ True := ⟨hff.1, trivial⟩
             clear hff
             go_wp2
             go_ret
             exact ⟨rfl, HN.out _ (HBV.out.trans (HB9.out.mono HBV.out.size))⟩)
          | (obtain ⟨rfl, h2⟩ := hff
             have hap := h2 rfl
             subst hap
             clear h2
             go_wp2
             go_ret
             exact ⟨rfl, HN.out _ (HBV.out.trans (HB9.out.mono HBV.out.size))⟩)
end Go.Proofs.Ytgiieepfhohmhab
