/- The reference: is it a right tape? -/
import Derived.Test.YtcbalhicaipmlaaGreatRSnQ
namespace Go.Proofs.YtcbalhicaipmlaaGreat
open Go.RowKit
theorem negB_take {k : Nat} {ls : List (List (List Int))} {i : Nat} (h : i < ls.length) : negB k (ls.take (i + 1)) = (negB k (ls.take i) || (ls.getD i []).any (negU k)) := by
  unfold negB
  rw [List.take_succ_eq_append_getElem h, List.any_append, List.getD_eq_getElem?_getD, List.getElem?_eq_getElem h]
  simp
theorem any_take {f : List Int → Bool} {l : List (List Int)} {n : Nat} (h : n < l.length) : (l.take (n + 1)).any f = ((l.take n).any f || f (rec l n)) := by
  rw [List.take_succ_eq_append_getElem h, List.any_append, rec_at h]
  simp
def minI (a b : Int) : Int := if b < a then b else a
theorem minI_neg (a b : Int) : decide (minI a b < 0) = (decide (a < 0) || decide (b < 0)) := by
  unfold minI
  by_cases ha : a < 0 <;> by_cases hb : b < 0 <;> by_cases hab : b < a <;> simp [*] <;> omega
theorem min_run8 (P : Program) (ats : Array TypeId) (ty : TypeId) (z0 z1 z2 z3 z4 z5 z6 z7 m : Int) (hm : minI (minI (minI (minI (minI (minI (minI (z0) z1) z2) z3) z4) z5) z6) z7 = m) (w : World) : (Builtin.min_ ats ty #[.int .i64 z0, .int .i64 z1, .int .i64 z2, .int .i64 z3, .int .i64 z4, .int .i64 z5, .int .i64 z6, .int .i64 z7]).run P w = .ok (.int .i64 m) w := by
  rw [← hm]
  rfl
theorem wp_minEight {ops : Array Oper} {rest : List Oper} {o : Oper} {a : Act} {Q : Exit → Act → World → Prop} {w : World} (hgd : o.guard = none) (x0 x1 x2 x3 x4 x5 x6 x7 : Operand) (ts : Array TypeId)
    (ho : o.op = .call { callee := .builtin .min, args := #[x0, x1, x2, x3, x4, x5, x6, x7], argTypes := ts }) (z0 z1 z2 z3 z4 z5 z6 z7 m : Int) (hm : minI (minI (minI (minI (minI (minI (minI (z0) z1) z2) z3) z4) z5) z6) z7 = m) (h0 : a.eval x0 = .int .i64 z0) (h1 : a.eval x1 = .int .i64 z1) (h2 : a.eval x2 = .int .i64 z2) (h3 : a.eval x3 = .int .i64 z3) (h4 : a.eval x4 = .int .i64 z4) (h5 : a.eval x5 = .int .i64 z5) (h6 : a.eval x6 = .int .i64 z6) (h7 : a.eval x7 = .int .i64 z7)
    (h : wpList Tryz.prog ops Q rest (a.put o.dst (.int .i64 m)) w) : wpList Tryz.prog ops Q (o :: rest) a w := by
  refine wpList_plain hgd fun K hK => ?_
  have hr := min_run8 Tryz.prog ts o.type z0 z1 z2 z3 z4 z5 z6 z7 m hm w
  unfold Oper.wp execOp
  simp only [ho, resolve, invoke, builtin, Sem.run_bind, Sem.run_pure, Result.andThen_ok, List.map_toArray, List.map_cons, List.map_nil, h0, h1, h2, h3, h4, h5, h6, h7, hr]
  exact hK _ _ h
theorem minSeven (lw : Int) (u : List Int) : decide (minI (minI (minI (minI (minI (minI (minI (lw) (fld u 0)) (fld u 1)) (fld u 2)) (fld u 3)) (fld u 4)) (fld u 5)) (fld u 6) < 0) = (decide (lw < 0) || negU 7 u) := by
  simp only [minI_neg]
  unfold negU
  rw [show List.range 7 = [0, 1, 2, 3, 4, 5, 6] from rfl]
  simp only [List.any_cons, List.any_nil, Bool.or_false, Bool.or_assoc]
set_option maxRecDepth 100000 in
set_option maxHeartbeats 8000000 in
theorem tapeFault_calls (s : St) (fa ea ta : Option Addr) (fc ec tc : Nat) (ls : List (List (List Int))) (w : World) (h : InE w s fa ea fc ec) (hel : s.es.length ≤ 1000) (hfl : s.free.length ≤ 1000) (_hn : ls.length ≤ 1000) (ht : Tks w ta ls) :
    Calls Tryz.prog 9 #[tapeV s.t s.g0 s.g1 s.nx (.slice fa s.free.length fc) (.slice ea s.es.length ec) (.slice ta ls.length tc)] w fun e w' => e = .returned (.int .i64 (ckTape s ls : Nat)) ∧ Below w.heap.size w w' := by
  obtain ⟨W, hW⟩ : ∃ W, w.alloc (.cells (tapeC s.t s.g0 s.g1 s.nx (.slice fa s.free.length fc) (.slice ea s.es.length ec) (.slice ta ls.length tc)) 29) = W := ⟨_, rfl⟩
  have hbW : Below w.heap.size w W := by rw [← hW]; exact (Below.refl _ w).alloc (Nat.le_refl _) _
  have hsW : W.heap.size = w.heap.size + 1 := by rw [← hW]; simp [go_sem]
  have hh0 : W.heap[w.heap.size]? = some (.cells (tapeC s.t s.g0 s.g1 s.nx (.slice fa s.free.length fc) (.slice ea s.es.length ec) (.slice ta ls.length tc)) 29) := by rw [← hW]; exact heap_alloc_new _ _
  have H0 : Hid (∀ wx, Below W.heap.size W wx → wx.heap[w.heap.size]? = some (.cells (tapeC s.t s.g0 s.g1 s.nx (.slice fa s.free.length fc) (.slice ea s.es.length ec) (.slice ta ls.length tc)) 29)) := fun wx hx => (hx.block _ (by omega)).trans hh0
  have HFW : Hid (∀ wx, Below W.heap.size W wx → Below w.heap.size w wx) := fun wx hx => hbW.trans (hx.mono (by omega))
  have HIN := hid (h.below hbW)
  have HT := hid (ht.below hbW)
  have HOF : Hid (Calls Tryz.prog 34 #[elderV s.t s.g0 s.g1 s.nx (.slice fa s.free.length fc) (.slice ea s.es.length ec)] W fun e w' => ∃ p, e = .returned (.pointer (some ⟨p, 0, none⟩)) ∧ GrE W.heap.size w' p false (upS s) ∧ Below W.heap.size W w') := by
    have hi := HIN.out
    have := ofElder_calls s.t s.g0 s.g1 s.nx s.free fa ea fc ec s.es W (by omega) (by omega) hi.rows hi.nums hi.fn
    rw [st0_up HIN.out.born] at this
    exact this
  obtain ⟨c, hc⟩ : ∃ c, checkE s.t s.g0 s.g1 s.nx s.free s.es = c := ⟨_, rfl⟩
  have HFA : Hid (∀ base wx p, GrE base wx p false (upS s) → Calls Tryz.prog 35 #[.pointer (some ⟨p, 0, none⟩)] wx fun e w' => e = .returned (.int .i64 c) ∧ Below wx.heap.size wx w') := fun base wx p hg => by
    have := fault_calls base p false (upS s) wx hg
    rw [faultU s, hc] at this
    exact this
  have HCK : Hid (ckTape s ls = ckT 7 c s.t ls) := by
    show _ = _
    unfold ckTape
    rw [hc]
  have HC0 : Hid (c = 0 → 0 ≤ s.t ∧ s.t ≤ 60) := fun h0 => by
    have hI := inv_of_check (s := s) (hc.trans h0)
    exact ⟨hI.t0, hI.t1⟩
  obtain ⟨x0, x1, x2, x3, x4, x5, x6⟩ := tape_cells hh0
  clear h ht hbW hsW hh0 hc
  go_enter Tryz.func9, Tryz.ntmps9
  go_wp2_with fail
  refine HOF.out.mono ?_
  rintro e w6 ⟨p, rfl, hg6, hb6⟩
  have HF6 := hid (HFA.out _ w6 p hg6)
  have HB6 := hid hb6
  clear hg6 hb6 HOF HFA x0 x1 x2 x3 x4 x5 x6 hW
  go_wp2_with fail
  refine HF6.out.mono ?_
  rintro e w7 ⟨rfl, hb7⟩
  have HB7 : Hid (Below W.heap.size W w7) := HB6.out.trans (hb7.mono HB6.out.size)
  clear hb7 HF6 HB6
  by_cases hc0 : c = 0
  case neg =>
    have HE : Hid (ckTape s ls = c) := by show _ = _; rw [HCK.out, ckT_bad hc0]
    have hq1 : 0 < c := by omega
    have hq2 : (0 : Int) < (c : Int) := by omega
    have HF := hid (HFW.out _ HB7.out)
    clear hc0 HC0
    go_wp2
    go_ret
    rw [HE.out]
    exact ⟨rfl, HF.out⟩
  obtain ⟨ht0, ht1⟩ := HC0.out hc0
  subst hc0
  have hw : IntKind.i64.wrap (60 - s.t) = 60 - s.t := IntWalk.i64_in _ ⟨by omega, by omega⟩
  obtain ⟨x0, x1, x2, x3, x4, x5, x6⟩ := tape_cells (H0.out w7 HB7.out)
  rw [ckT_ckL] at HCK
  by_cases h60 : 60 - s.t < (ls.length : Int)
  · have HE : Hid (ckTape s ls = 2) := by
      show _ = _
      rw [HCK.out]
      unfold ckL
      rw [decide_eq_true h60]
      rfl
    have HF := hid (HFW.out _ HB7.out)
    clear HC0
    go_wp2
    go_ret
    exact ⟨by rw [HE.out]; rfl, HF.out⟩
  have HZ : Hid (ckTape s ls = if tooM ls = true then 2 else if negB 7 ls = true then 1 else 0) := by
    show _ = _
    rw [HCK.out]
    unfold ckL
    rw [decide_eq_false h60, Bool.false_or]
  clear HCK HC0
  go_wp2_with fail
  clear x0 x1 x2 x3 x4 x5 x6
  go_loopw [4, 5] (fun lv i wr => ∃ (k : Nat) (lw : Int), k ≤ ls.length ∧ lv = .int .i64 lw ∧ i = .int .i64 k ∧ Hid (Below W.heap.size W wr) ∧ Hid (decide (lw < 0) = negB 7 (ls.take k)) ∧ Hid (∀ j, j < k → ¬ 8 < (ls.getD j []).length)) (fun _ i _ => ls.length - (intOf i).toNat)
  case atStart => exact ⟨0, 0, Nat.zero_le _, rfl, rfl, HB7, rfl, fun j hj => absurd hj (Nat.not_lt_zero _)⟩
  case round =>
    clear HB7
    obtain ⟨k, lw, hk, rfl, rfl, HBk, HL, HE8⟩ := hrel
    obtain ⟨x0, x1, x2, x3, x4, x5, x6⟩ := tape_cells (H0.out wr HBk.out)
    by_cases hlt : k < ls.length
    · have hltz : (k : Int) < (ls.length : Int) := by omega
      obtain ⟨b, o, la, lc, rfl, hca⟩ := tks_held HT.out hlt
      have HCA := hid hca
      have c1 := (hca wr HBk.out).1
      by_cases h8 : 8 < (ls.getD k []).length
      · have HE : Hid (ckTape s ls = 2) := by
          show _ = _
          rw [HZ.out, tooM_yes hlt h8]
          rfl
        have h8z : (8 : Int) < ((ls.getD k []).length : Int) := by omega
        have HF := hid (HFW.out _ HBk.out)
        generalize ls.getD k [] = l at c1 h8 h8z
        clear HCA hca HL HE8
        go_wp2
        go_ret
        exact ⟨by rw [HE.out]; rfl, HF.out⟩
      · have h8z : ¬ (8 : Int) < ((ls.getD k []).length : Int) := by omega
        have HNE : Hid (∀ j, j < k + 1 → ¬ 8 < (ls.getD j []).length) := fun j hj => by
          by_cases e : j = k
          · rw [e]; exact h8
          · exact HE8.out j (by omega)
        have HNB : Hid (negB 7 (ls.take (k + 1)) = (negB 7 (ls.take k) || (ls.getD k []).any (negU 7))) := negB_take hlt
        generalize ls.getD k [] = l at c1 h8 h8z HCA HNB
        clear hca HE8
        go_wp2_with fail
        clear c1 x0 x1 x2 x3 x4 x5 x6
        go_loopw [4, 6] (fun lv i wr => ∃ (n : Nat) (lw : Int), n ≤ l.length ∧ lv = .int .i64 lw ∧ i = .int .i64 n ∧ Hid (Below W.heap.size W wr) ∧ Hid (decide (lw < 0) = (negB 7 (ls.take k) || (l.take n).any (negU 7)))) (fun _ i _ => l.length - (intOf i).toNat)
        case atStart => exact ⟨0, lw, Nat.zero_le _, rfl, rfl, HBk, by show _ = _; rw [HL.out]; simp⟩
        case round =>
          clear HBk HL
          obtain ⟨n, lw, hn2, rfl, rfl, HBk, HL⟩ := hrel
          obtain ⟨x0, x1, x2, x3, x4, x5, x6⟩ := tape_cells (H0.out wr HBk.out)
          obtain ⟨c1, r1⟩ := HCA.out wr HBk.out
          by_cases hnl : n < l.length
          · have hnz : (n : Int) < (l.length : Int) := by omega
            obtain ⟨b3, o3, rfl, hm⟩ := r1.at hnl
            have l0 : wr.cell? ⟨b3, o3 + n * 7, none⟩ = some (.int .i64 (fld (rec l n) 0)) := hm 0 (by omega)
            have l1 := hm 1 (by omega)
            have l2 := hm 2 (by omega)
            have l3 := hm 3 (by omega)
            have l4 := hm 4 (by omega)
            have l5 := hm 5 (by omega)
            have l6 := hm 6 (by omega)
            have HAN : Hid ((l.take (n + 1)).any (negU 7) = ((l.take n).any (negU 7) || negU 7 (rec l n))) := any_take hnl
            generalize rec l n = u at l0 l1 l2 l3 l4 l5 l6 HAN
            have hbx : Below wr.heap.size wr (wr.alloc (.cells (cmdC u) 85)) := (Below.refl _ _).alloc (Nat.le_refl _) _
            have HBX : Hid (Below W.heap.size W (wr.alloc (.cells (cmdC u) 85))) := HBk.out.trans (hbx.mono HBk.out.size)
            have HLW : Hid (∀ m : Int, decide (m < 0) = (decide (lw < 0) || negU 7 u) → decide (m < 0) = (negB 7 (ls.take k) || (l.take (n + 1)).any (negU 7))) := fun m hm => by
              rw [hm, HL.out, HAN.out, Bool.or_assoc]
            obtain ⟨m, hmm⟩ : ∃ m, minI (minI (minI (minI (minI (minI (minI (lw) (fld u 0)) (fld u 1)) (fld u 2)) (fld u 3)) (fld u 4)) (fld u 5)) (fld u 6) = m := ⟨_, rfl⟩
            have HMM := hid hmm
            have HLM : Hid (decide (m < 0) = (negB 7 (ls.take k) || (l.take (n + 1)).any (negU 7))) := by
              refine HLW.out m ?_
              rw [← hmm]
              exact minSeven lw u
            clear hm r1 hbx HL HAN HLW hmm
            go_wp2_with (refine wp_minEight rfl _ _ _ _ _ _ _ _ _ rfl lw (fld u 0) (fld u 1) (fld u 2) (fld u 3) (fld u 4) (fld u 5) (fld u 6) m HMM.out rfl rfl rfl rfl rfl rfl rfl rfl ?_)
            go_roundw
            case rel => exact ⟨n + 1, m, by omega, rfl, by go_num, HBX, HLM⟩
            case measure => simp [intOf]; omega
          · have hnz : ¬ (n : Int) < (l.length : Int) := by omega
            have e : l.take n = l := List.take_of_length_le (by omega)
            rw [e] at HL
            clear r1 e
            go_wp2
            go_roundw
            case rel => exact ⟨k + 1, lw, by omega, rfl, by go_num, HBk, by show _ = _; rw [HL.out, HNB.out], HNE⟩
            case measure => simp [intOf]; omega
    · have hltz : ¬ (k : Int) < (ls.length : Int) := by omega
      have e : ls.take k = ls := List.take_of_length_le (by omega)
      rw [e] at HL
      have htm : tooM ls = false := tooM_no (fun j hj => HE8.out j (by omega))
      have HF := hid (HFW.out _ HBk.out)
      by_cases hlw : lw < 0
      · have HE : Hid (ckTape s ls = 1) := by
          show _ = _
          rw [HZ.out, htm, ← HL.out, decide_eq_true hlw]
          rfl
        clear HL HE8 HZ htm e
        go_wp2
        go_ret
        exact ⟨by rw [HE.out]; rfl, HF.out⟩
      · have HE : Hid (ckTape s ls = 0) := by
          show _ = _
          rw [HZ.out, htm, ← HL.out, decide_eq_false hlw]
          rfl
        clear HL HE8 HZ htm e
        go_wp2
        go_ret
        exact ⟨by rw [HE.out]; rfl, HF.out⟩
end Go.Proofs.YtcbalhicaipmlaaGreat
namespace Go.Proofs.YtcbalhicaipmlaaGreat
open Go.RowKit
theorem min_run7 (P : Program) (ats : Array TypeId) (ty : TypeId) (z0 z1 z2 z3 z4 z5 z6 m : Int) (hm : minI (minI (minI (minI (minI (minI (z0) z1) z2) z3) z4) z5) z6 = m) (w : World) : (Builtin.min_ ats ty #[.int .i64 z0, .int .i64 z1, .int .i64 z2, .int .i64 z3, .int .i64 z4, .int .i64 z5, .int .i64 z6]).run P w = .ok (.int .i64 m) w := by
  rw [← hm]
  rfl
theorem wp_minSeven {ops : Array Oper} {rest : List Oper} {o : Oper} {a : Act} {Q : Exit → Act → World → Prop} {w : World} (hgd : o.guard = none) (x0 x1 x2 x3 x4 x5 x6 : Operand) (ts : Array TypeId)
    (ho : o.op = .call { callee := .builtin .min, args := #[x0, x1, x2, x3, x4, x5, x6], argTypes := ts }) (z0 z1 z2 z3 z4 z5 z6 m : Int) (hm : minI (minI (minI (minI (minI (minI (z0) z1) z2) z3) z4) z5) z6 = m) (h0 : a.eval x0 = .int .i64 z0) (h1 : a.eval x1 = .int .i64 z1) (h2 : a.eval x2 = .int .i64 z2) (h3 : a.eval x3 = .int .i64 z3) (h4 : a.eval x4 = .int .i64 z4) (h5 : a.eval x5 = .int .i64 z5) (h6 : a.eval x6 = .int .i64 z6)
    (h : wpList Tryz.prog ops Q rest (a.put o.dst (.int .i64 m)) w) : wpList Tryz.prog ops Q (o :: rest) a w := by
  refine wpList_plain hgd fun K hK => ?_
  have hr := min_run7 Tryz.prog ts o.type z0 z1 z2 z3 z4 z5 z6 m hm w
  unfold Oper.wp execOp
  simp only [ho, resolve, invoke, builtin, Sem.run_bind, Sem.run_pure, Result.andThen_ok, List.map_toArray, List.map_cons, List.map_nil, h0, h1, h2, h3, h4, h5, h6, hr]
  exact hK _ _ h
theorem minSix (lw : Int) (u : List Int) : decide (minI (minI (minI (minI (minI (minI (lw) (fld u 0)) (fld u 1)) (fld u 2)) (fld u 3)) (fld u 4)) (fld u 5) < 0) = (decide (lw < 0) || negU 6 u) := by
  simp only [minI_neg]
  unfold negU
  rw [show List.range 6 = [0, 1, 2, 3, 4, 5] from rfl]
  simp only [List.any_cons, List.any_nil, Bool.or_false, Bool.or_assoc]
set_option maxRecDepth 100000 in
set_option maxHeartbeats 8000000 in
theorem reelFault_calls (s : St) (ea ta : Option Addr) (ec tc : Nat) (ls : List (List (List Int))) (w : World) (h : InW w s ea ec) (hel : s.es.length ≤ 1000)  (_hn : ls.length ≤ 1000) (ht : TksN w ta ls) :
    Calls Tryz.prog 17 #[reelV s.t s.g0 s.g1 s.nx (.slice ea s.es.length ec) (.slice ta ls.length tc)] w fun e w' => e = .returned (.int .i64 (ckReel s ls : Nat)) ∧ Below w.heap.size w w' := by
  obtain ⟨W, hW⟩ : ∃ W, w.alloc (.cells (reelC s.t s.g0 s.g1 s.nx (.slice ea s.es.length ec) (.slice ta ls.length tc)) 35) = W := ⟨_, rfl⟩
  have hbW : Below w.heap.size w W := by rw [← hW]; exact (Below.refl _ w).alloc (Nat.le_refl _) _
  have hsW : W.heap.size = w.heap.size + 1 := by rw [← hW]; simp [go_sem]
  have hh0 : W.heap[w.heap.size]? = some (.cells (reelC s.t s.g0 s.g1 s.nx (.slice ea s.es.length ec) (.slice ta ls.length tc)) 35) := by rw [← hW]; exact heap_alloc_new _ _
  have H0 : Hid (∀ wx, Below W.heap.size W wx → wx.heap[w.heap.size]? = some (.cells (reelC s.t s.g0 s.g1 s.nx (.slice ea s.es.length ec) (.slice ta ls.length tc)) 35)) := fun wx hx => (hx.block _ (by omega)).trans hh0
  have HFW : Hid (∀ wx, Below W.heap.size W wx → Below w.heap.size w wx) := fun wx hx => hbW.trans (hx.mono (by omega))
  have HIN := hid (h.below hbW)
  have HT := hid (ht.below hbW)
  have HOF : Hid (Calls Tryz.prog 46 #[newerV s.t s.g0 s.g1 s.nx (.slice ea s.es.length ec)] W fun e w' => ∃ p, e = .returned (.pointer (some ⟨p, 0, none⟩)) ∧ GrE W.heap.size w' p true s ∧ Below W.heap.size W w') := by
    have hi := HIN.out
    have := ofNewer_calls s.t s.g0 s.g1 s.nx ea ec s.es W (by omega) hi.rows hi.un
    rw [st0_N hi.fr hi.born] at this
    exact this
  obtain ⟨c, hc⟩ : ∃ c, ckN s = c := ⟨_, rfl⟩
  have HFA : Hid (∀ base wx p, GrE base wx p true s → Calls Tryz.prog 35 #[.pointer (some ⟨p, 0, none⟩)] wx fun e w' => e = .returned (.int .i64 c) ∧ Below wx.heap.size wx w') := fun base wx p hg => by
    have := fault_calls base p true s wx hg
    rw [faultN s HIN.out.fr, show checkN s.t s.g0 s.g1 s.nx s.es = ckN s from rfl, hc] at this
    exact this
  have HCK : Hid (ckReel s ls = ckT 6 c s.t ls) := by
    show _ = _
    unfold ckReel
    rw [hc]
  have HC0 : Hid (c = 0 → 0 ≤ s.t ∧ s.t ≤ 60) := fun h0 => by
    have hI := invN_of_check HIN.out.fr (hc.trans h0)
    exact ⟨hI.t0, hI.t1⟩
  obtain ⟨x0, x1, x2, x3, x4, x5⟩ := reel_cellsS hh0
  clear h ht hbW hsW hh0 hc
  go_enter Tryz.func17, Tryz.ntmps17
  go_wp2_with fail
  refine HOF.out.mono ?_
  rintro e w6 ⟨p, rfl, hg6, hb6⟩
  have HF6 := hid (HFA.out _ w6 p hg6)
  have HB6 := hid hb6
  clear hg6 hb6 HOF HFA x0 x1 x2 x3 x4 x5 hW
  go_wp2_with fail
  refine HF6.out.mono ?_
  rintro e w7 ⟨rfl, hb7⟩
  have HB7 : Hid (Below W.heap.size W w7) := HB6.out.trans (hb7.mono HB6.out.size)
  clear hb7 HF6 HB6
  by_cases hc0 : c = 0
  case neg =>
    have HE : Hid (ckReel s ls = c) := by show _ = _; rw [HCK.out, ckT_bad hc0]
    have hq1 : 0 < c := by omega
    have hq2 : (0 : Int) < (c : Int) := by omega
    have HF := hid (HFW.out _ HB7.out)
    clear hc0 HC0
    go_wp2
    go_ret
    rw [HE.out]
    exact ⟨rfl, HF.out⟩
  obtain ⟨ht0, ht1⟩ := HC0.out hc0
  subst hc0
  have hw : IntKind.i64.wrap (60 - s.t) = 60 - s.t := IntWalk.i64_in _ ⟨by omega, by omega⟩
  obtain ⟨x0, x1, x2, x3, x4, x5⟩ := reel_cellsS (H0.out w7 HB7.out)
  rw [ckT_ckL] at HCK
  by_cases h60 : 60 - s.t < (ls.length : Int)
  · have HE : Hid (ckReel s ls = 2) := by
      show _ = _
      rw [HCK.out]
      unfold ckL
      rw [decide_eq_true h60]
      rfl
    have HF := hid (HFW.out _ HB7.out)
    clear HC0
    go_wp2
    go_ret
    exact ⟨by rw [HE.out]; rfl, HF.out⟩
  have HZ : Hid (ckReel s ls = if tooM ls = true then 2 else if negB 6 ls = true then 1 else 0) := by
    show _ = _
    rw [HCK.out]
    unfold ckL
    rw [decide_eq_false h60, Bool.false_or]
  clear HCK HC0
  go_wp2_with fail
  clear x0 x1 x2 x3 x4 x5
  go_loopw [4, 5] (fun lv i wr => ∃ (k : Nat) (lw : Int), k ≤ ls.length ∧ lv = .int .i64 lw ∧ i = .int .i64 k ∧ Hid (Below W.heap.size W wr) ∧ Hid (decide (lw < 0) = negB 6 (ls.take k)) ∧ Hid (∀ j, j < k → ¬ 8 < (ls.getD j []).length)) (fun _ i _ => ls.length - (intOf i).toNat)
  case atStart => exact ⟨0, 0, Nat.zero_le _, rfl, rfl, HB7, rfl, fun j hj => absurd hj (Nat.not_lt_zero _)⟩
  case round =>
    clear HB7
    obtain ⟨k, lw, hk, rfl, rfl, HBk, HL, HE8⟩ := hrel
    obtain ⟨x0, x1, x2, x3, x4, x5⟩ := reel_cellsS (H0.out wr HBk.out)
    by_cases hlt : k < ls.length
    · have hltz : (k : Int) < (ls.length : Int) := by omega
      obtain ⟨b, o, la, lc, rfl, hca⟩ := tksN_held HT.out hlt
      have HCA := hid hca
      have c1 := (hca wr HBk.out).1
      by_cases h8 : 8 < (ls.getD k []).length
      · have HE : Hid (ckReel s ls = 2) := by
          show _ = _
          rw [HZ.out, tooM_yes hlt h8]
          rfl
        have h8z : (8 : Int) < ((ls.getD k []).length : Int) := by omega
        have HF := hid (HFW.out _ HBk.out)
        generalize ls.getD k [] = l at c1 h8 h8z
        clear HCA hca HL HE8
        go_wp2
        go_ret
        exact ⟨by rw [HE.out]; rfl, HF.out⟩
      · have h8z : ¬ (8 : Int) < ((ls.getD k []).length : Int) := by omega
        have HNE : Hid (∀ j, j < k + 1 → ¬ 8 < (ls.getD j []).length) := fun j hj => by
          by_cases e : j = k
          · rw [e]; exact h8
          · exact HE8.out j (by omega)
        have HNB : Hid (negB 6 (ls.take (k + 1)) = (negB 6 (ls.take k) || (ls.getD k []).any (negU 6))) := negB_take hlt
        generalize ls.getD k [] = l at c1 h8 h8z HCA HNB
        clear hca HE8
        go_wp2_with fail
        clear c1 x0 x1 x2 x3 x4 x5
        go_loopw [4, 6] (fun lv i wr => ∃ (n : Nat) (lw : Int), n ≤ l.length ∧ lv = .int .i64 lw ∧ i = .int .i64 n ∧ Hid (Below W.heap.size W wr) ∧ Hid (decide (lw < 0) = (negB 6 (ls.take k) || (l.take n).any (negU 6)))) (fun _ i _ => l.length - (intOf i).toNat)
        case atStart => exact ⟨0, lw, Nat.zero_le _, rfl, rfl, HBk, by show _ = _; rw [HL.out]; simp⟩
        case round =>
          clear HBk HL
          obtain ⟨n, lw, hn2, rfl, rfl, HBk, HL⟩ := hrel
          obtain ⟨x0, x1, x2, x3, x4, x5⟩ := reel_cellsS (H0.out wr HBk.out)
          obtain ⟨c1, r1⟩ := HCA.out wr HBk.out
          by_cases hnl : n < l.length
          · have hnz : (n : Int) < (l.length : Int) := by omega
            obtain ⟨b3, o3, rfl, hm⟩ := r1.at hnl
            have l0 : wr.cell? ⟨b3, o3 + n * 6, none⟩ = some (.int .i64 (fld (rec l n) 0)) := hm 0 (by omega)
            have l1 := hm 1 (by omega)
            have l2 := hm 2 (by omega)
            have l3 := hm 3 (by omega)
            have l4 := hm 4 (by omega)
            have l5 := hm 5 (by omega)
            have HAN : Hid ((l.take (n + 1)).any (negU 6) = ((l.take n).any (negU 6) || negU 6 (rec l n))) := any_take hnl
            generalize rec l n = u at l0 l1 l2 l3 l4 l5 HAN
            have hbx : Below wr.heap.size wr (wr.alloc (.cells (ordC u) 102)) := (Below.refl _ _).alloc (Nat.le_refl _) _
            have HBX : Hid (Below W.heap.size W (wr.alloc (.cells (ordC u) 102))) := HBk.out.trans (hbx.mono HBk.out.size)
            have HLW : Hid (∀ m : Int, decide (m < 0) = (decide (lw < 0) || negU 6 u) → decide (m < 0) = (negB 6 (ls.take k) || (l.take (n + 1)).any (negU 6))) := fun m hm => by
              rw [hm, HL.out, HAN.out, Bool.or_assoc]
            obtain ⟨m, hmm⟩ : ∃ m, minI (minI (minI (minI (minI (minI (lw) (fld u 0)) (fld u 1)) (fld u 2)) (fld u 3)) (fld u 4)) (fld u 5) = m := ⟨_, rfl⟩
            have HMM := hid hmm
            have HLM : Hid (decide (m < 0) = (negB 6 (ls.take k) || (l.take (n + 1)).any (negU 6))) := by
              refine HLW.out m ?_
              rw [← hmm]
              exact minSix lw u
            clear hm r1 hbx HL HAN HLW hmm
            go_wp2_with (refine wp_minSeven rfl _ _ _ _ _ _ _ _ rfl lw (fld u 0) (fld u 1) (fld u 2) (fld u 3) (fld u 4) (fld u 5) m HMM.out rfl rfl rfl rfl rfl rfl rfl ?_)
            go_roundw
            case rel => exact ⟨n + 1, m, by omega, rfl, by go_num, HBX, HLM⟩
            case measure => simp [intOf]; omega
          · have hnz : ¬ (n : Int) < (l.length : Int) := by omega
            have e : l.take n = l := List.take_of_length_le (by omega)
            rw [e] at HL
            clear r1 e
            go_wp2
            go_roundw
            case rel => exact ⟨k + 1, lw, by omega, rfl, by go_num, HBk, by show _ = _; rw [HL.out, HNB.out], HNE⟩
            case measure => simp [intOf]; omega
    · have hltz : ¬ (k : Int) < (ls.length : Int) := by omega
      have e : ls.take k = ls := List.take_of_length_le (by omega)
      rw [e] at HL
      have htm : tooM ls = false := tooM_no (fun j hj => HE8.out j (by omega))
      have HF := hid (HFW.out _ HBk.out)
      by_cases hlw : lw < 0
      · have HE : Hid (ckReel s ls = 1) := by
          show _ = _
          rw [HZ.out, htm, ← HL.out, decide_eq_true hlw]
          rfl
        clear HL HE8 HZ htm e
        go_wp2
        go_ret
        exact ⟨by rw [HE.out]; rfl, HF.out⟩
      · have HE : Hid (ckReel s ls = 0) := by
          show _ = _
          rw [HZ.out, htm, ← HL.out, decide_eq_false hlw]
          rfl
        clear HL HE8 HZ htm e
        go_wp2
        go_ret
        exact ⟨by rw [HE.out]; rfl, HF.out⟩
end Go.Proofs.YtcbalhicaipmlaaGreat
