/- ElderSays: the walk. -/
import Derived.Test.YtgiieepfhohmhaaEsC
import Derived.Test.YtgiieepfhohmhaaEsRA
namespace Go.Proofs.Ytgiieepfhohmhaa
open Go.RowKit Go.Maps

abbrev markC : Array Value := #[.int .i64 0, .int .i64 77, .int .i64 0, .int .i64 0, .int .i64 0, .int .i64 0, .int .i64 0]
def markQ : List Int := [0, 77, 0, 0, 0, 0, 0]
theorem recs_mark (w : World) : Recs (w.alloc (.cells markC 69)) (some ⟨w.heap.size, 0, none⟩) 7 [markQ] := recs_oneC w markQ _

theorem elder_held {Y : World} {b : Nat} {a0 a1 a2 a3 a4 a5 : Value} (h : Y.heap[b]? = some (.cells #[a0, a1, a2, a3, a4, a5] 60)) :
    (∀ w', Below Y.heap.size Y w' → w'.cell? ⟨b, 0, none⟩ = some a0) ∧ (∀ w', Below Y.heap.size Y w' → w'.cell? ⟨b, 1, none⟩ = some a1) ∧ (∀ w', Below Y.heap.size Y w' → w'.cell? ⟨b, 2, none⟩ = some a2) ∧ (∀ w', Below Y.heap.size Y w' → w'.cell? ⟨b, 3, none⟩ = some a3) ∧ (∀ w', Below Y.heap.size Y w' → w'.cell? ⟨b, 4, none⟩ = some a4) ∧ (∀ w', Below Y.heap.size Y w' → w'.cell? ⟨b, 5, none⟩ = some a5) := by
  have k : ∀ w', Below Y.heap.size Y w' → w'.heap[b]? = some (.cells #[a0, a1, a2, a3, a4, a5] 60) := fun w' hb => (hb.block b (Array.getElem?_eq_some_iff.1 h).1).trans h
  exact ⟨fun w' hb => (elder_cells (k w' hb)).1, fun w' hb => (elder_cells (k w' hb)).2.1, fun w' hb => (elder_cells (k w' hb)).2.2.1, fun w' hb => (elder_cells (k w' hb)).2.2.2.1, fun w' hb => (elder_cells (k w' hb)).2.2.2.2.1, fun w' hb => (elder_cells (k w' hb)).2.2.2.2.2⟩
theorem out_small {s : St} {l : List (List Int)} (hb : s.born = []) (hl : l.length ≤ 12) : (outS s l).es.length ≤ 1000 ∧ (outS s l).free.length ≤ 1000 ∧ (outS s l).born.length ≤ 1000 := by
  unfold outS
  split
  next h =>
    have hI := inv_of_check h.1
    have h4 := left4 hI hb (fun e => h.2 (Or.inr e)) l (by have := h.2; omega)
    have hI2 := inv_of_check h4.right
    have := hI2.el
    have := hI2.fl
    have := h4.small.2
    omega
  · exact ⟨Nat.zero_le _, Nat.zero_le _, Nat.zero_le _⟩
theorem play_small : ∀ (ls : List (List (List Int))) (s : St), Inv s → s.born = [] → (playO s ls).2.es.length ≤ 1000 ∧ (playO s ls).2.free.length ≤ 1000
  | [], s, h, _ => by
    have := h.el
    have := h.fl
    exact ⟨show s.es.length ≤ 1000 by omega, show s.free.length ≤ 1000 by omega⟩
  | l :: ls, s, h, hb => by
    unfold playO
    split
    next hc =>
      obtain ⟨h1, h2⟩ := next_inv h hb hc
      exact play_small ls _ h1 h2
    · exact ⟨Nat.zero_le _, Nat.zero_le _⟩
theorem playC_small {s : St} {ls : List (List (List Int))} {n : Int} (hb : s.born = []) : (playC s ls n).2.es.length ≤ 1000 ∧ (playC s ls n).2.free.length ≤ 1000 := by
  unfold playC
  split
  · exact ⟨Nat.zero_le _, Nat.zero_le _⟩
  · split
    next hc => exact play_small _ _ (inv_of_check hc) hb
    · exact ⟨Nat.zero_le _, Nat.zero_le _⟩

set_option maxRecDepth 100000 in
set_option maxHeartbeats 8000000 in
theorem says_calls (s S : St) (fa ea la fT eT ta : Option Addr) (fc ec lc fcT ecT tc : Nat) (l : List (List Int)) (ls : List (List (List Int))) (n : Int) (w : World) (h : InE w s fa ea fc ec) (hl : Recs w la 7 l) (hln : la = none → lc = 0) (hS : InE w S fT eT fcT ecT) (ht : Tks w ta ls) (htc : ls.length ≤ tc) :
    Calls Try.prog 7 #[elderV s.t s.g0 s.g1 s.nx (.slice fa s.free.length fc) (.slice ea s.es.length ec), .slice la l.length lc, tapeV S.t S.g0 S.g1 S.nx (.slice fT S.free.length fcT) (.slice eT S.es.length ecT) (.slice ta ls.length tc), .int .i64 n] w fun e w' => e = .returned (.bool true) ∧ Below w.heap.size w w' := by
  obtain ⟨W, hW⟩ : ∃ W, (w.alloc (.cells (elC s.t s.g0 s.g1 s.nx (.slice fa s.free.length fc) (.slice ea s.es.length ec)) 60)).alloc (.cells (tapeC S.t S.g0 S.g1 S.nx (.slice fT S.free.length fcT) (.slice eT S.es.length ecT) (.slice ta ls.length tc)) 64) = W := ⟨_, rfl⟩
  have hbW : Below w.heap.size w W := by rw [← hW]; exact ((Below.refl _ w).alloc (Nat.le_refl _) _).alloc (by simp [go_sem]) _
  have hsW : W.heap.size = w.heap.size + 2 := by rw [← hW]; simp [go_sem]
  have hh0 : W.heap[w.heap.size]? = some (.cells (elC s.t s.g0 s.g1 s.nx (.slice fa s.free.length fc) (.slice ea s.es.length ec)) 60) := by
    rw [← hW, heap_alloc_old _ _ (by simp [go_sem])]
    exact heap_alloc_new w _
  have hh1 : W.heap[w.heap.size + 1]? = some (.cells (tapeC S.t S.g0 S.g1 S.nx (.slice fT S.free.length fcT) (.slice eT S.es.length ecT) (.slice ta ls.length tc)) 64) := by
    have e : w.heap.size + 1 = (w.alloc (.cells (elC s.t s.g0 s.g1 s.nx (.slice fa s.free.length fc) (.slice ea s.es.length ec)) 60)).heap.size := by simp [go_sem]
    rw [← hW, e]
    exact heap_alloc_new _ _
  have HBW := hid hbW
  have HSW := hid hsW
  have H0 := hid hh0
  have H1 := hid hh1
  have HIN := hid (h.below hbW)
  have HIT := hid (hS.below hbW)
  have HL := hid (hl.below hbW)
  have HLN := hid hln
  have HT := hid (ht.below hbW)
  clear h hl hln hS ht hbW hsW hh0 hh1
  go_enter Try.func7, Try.ntmps7
  go_wp2_with fail
  refine (plays_calls W).mono ?_
  rintro e w1 ⟨rfl, hb1⟩
  obtain ⟨x0, x1, x2, x3, x4, x5⟩ := elder_cells ((hb1.block w.heap.size (by rw [HSW.out]; omega)).trans H0.out)
  have HB1 := hid hb1
  clear hb1 hW
  go_wp2_with fail
  refine (lightElder_calls _ _ _ _ _ _ _ _ _ _ _).mono ?_
  rintro e w2 ⟨rfl, hb2⟩
  have HB2 : Hid (Below W.heap.size W w2) := HB1.out.trans (hb2.mono HB1.out.size)
  clear hb2 HB1 x0 x1 x2 x3 x4 x5
  by_cases hlt : s.es.length ≤ 25 ∧ s.free.length ≤ 220
  case neg =>
    rw [decide_eq_false hlt]
    have HF : Hid (Below w.heap.size w w2) := HBW.out.trans (HB2.out.mono (by rw [HSW.out]; omega))
    go_wp2
    go_ret
    exact ⟨rfl, HF.out⟩
  rw [decide_eq_true hlt]
  by_cases h12 : l.length ≤ 12
  case neg =>
    have hz : (12 : Int) < (l.length : Int) := by omega
    have HF : Hid (Below w.heap.size w w2) := HBW.out.trans (HB2.out.mono (by rw [HSW.out]; omega))
    go_wp2
    go_ret
    exact ⟨rfl, HF.out⟩
  have hz : ¬ (12 : Int) < (l.length : Int) := by omega
  obtain ⟨y0, y1, y2, y3, y4, y5, y6⟩ := tape_cells ((HB2.out.block (w.heap.size + 1) (by rw [HSW.out]; omega)).trans H1.out)
  go_wp2_with fail
  refine (lightTape_calls S fT eT ta fcT ecT tc ls w2 (HT.out.below HB2.out)).mono ?_
  rintro e w3 ⟨b, rfl, hlight, hb3⟩
  have HB3 : Hid (Below W.heap.size W w3) := HB2.out.trans (hb3.mono HB2.out.size)
  clear hb3 HB2 y0 y1 y2 y3 y4 y5 y6
  cases b with
  | false =>
    have HF : Hid (Below w.heap.size w w3) := HBW.out.trans (HB3.out.mono (by rw [HSW.out]; omega))
    go_wp2
    go_ret
    exact ⟨rfl, HF.out⟩
  | true =>
    obtain ⟨h70, hE25, hF220⟩ := hlight rfl
    clear hlight
    obtain ⟨x0, x1, x2, x3, x4, x5⟩ := elder_cells ((HB3.out.block w.heap.size (by rw [HSW.out]; omega)).trans H0.out)
    have hin3 := HIN.out.below HB3.out
    have HOW := hid (ownElder_calls s.t s.g0 s.g1 s.nx s.free fa ea fc ec s.es w3 hin3.en hin3.fn (by omega) (by omega) hin3.rows hin3.nums)
    clear hin3
    go_wp2_with fail
    refine HOW.out.mono ?_
    rintro e w4 ⟨fo, eo, fco, eco, rfl, hro, hno, hco, heo, hfo, hb4⟩
    have HB4 : Hid (Below W.heap.size W w4) := HB3.out.trans (hb4.mono HB3.out.size)
    obtain ⟨V, hV⟩ : ∃ V, w4.alloc (.cells (elC s.t s.g0 s.g1 s.nx (.slice fo s.free.length fco) (.slice eo s.es.length eco)) 60) = V := ⟨_, rfl⟩
    have hbV : Below w4.heap.size w4 V := by rw [← hV]; exact (Below.refl _ _).alloc (Nat.le_refl _) _
    have hhV : V.heap[w4.heap.size]? = some (.cells (elC s.t s.g0 s.g1 s.nx (.slice fo s.free.length fco) (.slice eo s.es.length eco)) 60) := by rw [← hV]; exact heap_alloc_new _ _
    have HBV : Hid (Below W.heap.size W V) := HB4.out.trans (hbV.mono HB4.out.size)
    have HIO : Hid (InE V s fo eo fco eco) := ⟨(fun e => absurd e hfo), (fun e => absurd e heo), hco, hro.below hbV, hno.below hbV, HIN.out.wf, HIN.out.born⟩
    have HHV := hid hhV
    clear HOW hro hno hco heo hfo hb4 hbV hhV HB4 HB3 x0 x1 x2 x3 x4 x5
    have HXV := hid hV
    clear hV
    go_upto_region 5 with fail
    rw [HXV.out]
    have HLV := hid (HL.out.below HBV.out)
    have hVW := HBV.out.size
    go_wp2_with (first
      | (at_builtin; refine wp_rowsC V (by rfl) (.const (.slice none 0 0)) (.tmp 41) (by rfl) V.heap.size (.slice none 0 0) [] (by rfl) (World.ownsRow_nil _ _ _ _) la lc l (by rfl) HLV.out HLN.out (by simp; omega) (Nat.le_refl _) ?_
         intro v5 w5 hr5 hg5 hl5
         rw [List.nil_append] at hr5
         have HB5 := hid (grown_below hg5)
         have HR5 := hid hr5
         obtain ⟨va5, vc5, rfl, _, _, _⟩ := hr5.open
         clear hr5 hg5 hl5)
      | (at_builtin; refine wp_rowsC (w5.alloc (.cells markC 69)) (by rfl) (.tmp 42) (.tmp 44) (by rfl) V.heap.size (.slice va5 l.length vc5) l (by rfl) (World.ownsRow.alloc HR5.out _) (some ⟨w5.heap.size, 0, none⟩) 1 [markQ] (by rfl) (recs_mark w5) (fun h => by cases h) (show l.length + 1 ≤ 100000 by omega) (by have := HB5.out.size; simp [go_sem]; omega) ?_
         intro v6 w6 hr6 hg6 hl6
         have hb6 : Below V.heap.size V w6 := (HB5.out.alloc HB5.out.size _).grown hg6 (by have := HB5.out.size; simp [go_sem]; omega) (fun k hk => (World.ownsRow.lt HR5.out k hk).1)
         have hr6' := hr6
         obtain ⟨va6, vc6, rfl, _, _, _⟩ := hr6'.open
         obtain ⟨hrq, hcq⟩ := rowC_front hr6
         have hcz : (l.length : Int) ≤ (vc6 : Int) := by omega
         obtain ⟨o0, o1, o2, o3, o4, o5⟩ := elder_cells ((hb6.block w4.heap.size (Array.getElem?_eq_some_iff.1 HHV.out).1).trans HHV.out)
         have HRQ := hid hrq
         have HB6 := hid hb6
         clear hr6 hr6' hg6 hl6 hb6 hrq hcq))
    refine (step_all s fo eo va6 fco eco vc6 l w6 (HIO.out.below HB6.out) HRQ.out).mono ?_
    rintro e w7 ⟨fx, ex, bx, rfl, h1, h2, h3, hb7⟩
    obtain ⟨ex, ecx, rfl, _, hrx, _⟩ := h1.open
    obtain ⟨fx, fcx, rfl, _, hnx, _⟩ := h2.open
    obtain ⟨bx, bcx, rfl, _, hbx, _⟩ := h3.open
    obtain ⟨R, hR⟩ : ∃ R, outS s l = R := ⟨_, rfl⟩
    obtain ⟨c, hc⟩ : ∃ c, outC s l = c := ⟨_, rfl⟩
    have hc3 : c ≤ 3 := by rw [← hc]; exact outC_le s l
    have HRR := hid hR
    have HCC := hid hc
    rw [hR] at hrx hnx hbx
    rw [hR, hc]
    obtain ⟨X, hX⟩ : ∃ X, w7.alloc (.cells (elC R.t R.g0 R.g1 R.nx (.slice fx R.free.length fcx) (.slice ex R.es.length ecx)) 60) = X := ⟨_, rfl⟩
    have hbX : Below w7.heap.size w7 X := by rw [← hX]; exact (Below.refl _ _).alloc (Nat.le_refl _) _
    have hhX : X.heap[w7.heap.size]? = some (.cells (elC R.t R.g0 R.g1 R.nx (.slice fx R.free.length fcx) (.slice ex R.es.length ecx)) 60) := by rw [← hX]; exact heap_alloc_new _ _
    have HB7 : Hid (Below V.heap.size V w7) := HB6.out.trans (hb7.mono HB6.out.size)
    have HBX : Hid (Below V.heap.size V X) := HB7.out.trans (hbX.mono HB7.out.size)
    have HRX := hid (hrx.below hbX)
    have HNX := hid (hnx.below hbX)
    have HBBX := hid (hbx.below hbX)
    have HHX := hid hhX
    have HXX := hid hX
    clear hR hc h1 h2 h3 hb7 hrx hnx hbx hbX hhX hX HB5 HR5 HB6 HRQ HB7 HLV o0 o1 o2 o3 o4 o5
    go_upto_region 7 with fail
    rw [HXX.out]
    have hWX : Below W.heap.size W X := HBV.out.trans (HBX.out.mono hVW)
    obtain ⟨x0, x1, x2, x3, x4, x5⟩ := elder_cells ((hWX.block w.heap.size (by rw [HSW.out]; omega)).trans H0.out)
    have HWX := hid hWX
    have HSR := hid (stepR_all s fa ea la fc ec lc l X (HIN.out.below hWX) (by omega) (by omega) (HL.out.below hWX))
    clear hWX
    go_wp2_with fail
    refine HSR.out.mono ?_
    rintro e w8 ⟨fy, ey, bye, rfl, h1, h2, h3, hb8⟩
    obtain ⟨ey, ecy, rfl, _, hry, _⟩ := h1.open
    obtain ⟨fy, fcy, rfl, _, hny, _⟩ := h2.open
    obtain ⟨bye, bcy, rfl, _, hby, _⟩ := h3.open
    rw [HRR.out] at hry hny hby
    rw [HRR.out, HCC.out, show intV c = .int .i64 (c : Int) from rfl]
    obtain ⟨Y, hY⟩ : ∃ Y, w8.alloc (.cells (elC R.t R.g0 R.g1 R.nx (.slice fy R.free.length fcy) (.slice ey R.es.length ecy)) 60) = Y := ⟨_, rfl⟩
    have hbY : Below w8.heap.size w8 Y := by rw [← hY]; exact (Below.refl _ _).alloc (Nat.le_refl _) _
    have hhY : Y.heap[w8.heap.size]? = some (.cells (elC R.t R.g0 R.g1 R.nx (.slice fy R.free.length fcy) (.slice ey R.es.length ecy)) 60) := by rw [← hY]; exact heap_alloc_new _ _
    have hXY : Below X.heap.size X Y := hb8.trans (hbY.mono hb8.size)
    have HRY := hid (hry.below hbY)
    have HNY := hid (hny.below hbY)
    have HBBY := hid (hby.below hbY)
    have HHY := hid hhY
    have HYY := hid hY
    have HXY := hid hXY
    clear h1 h2 h3 hb8 hry hny hby hbY hhY hY hXY HSR x0 x1 x2 x3 x4 x5
    go_upto_region 8 with fail
    rw [HYY.out]
    have hVY : Below V.heap.size V Y := HBX.out.trans (HXY.out.mono HBX.out.size)
    have hWY : Below W.heap.size W Y := HWX.out.trans (HXY.out.mono HWX.out.size)
    obtain ⟨hsm1, hsm2, hsm3⟩ := out_small (l := l) HIN.out.born h12
    rw [HRR.out] at hsm1 hsm2 hsm3
    obtain ⟨a0, a1, a2, a3, a4, a5⟩ := elder_held ((hVY.block w4.heap.size (Array.getElem?_eq_some_iff.1 HHV.out).1).trans HHV.out)
    obtain ⟨b0, b1, b2, b3, b4, b5⟩ := elder_held ((hWY.block w.heap.size (by rw [HSW.out]; omega)).trans H0.out)
    obtain ⟨d0, d1, d2, d3, d4, d5⟩ := elder_held ((HXY.out.block w7.heap.size (Array.getElem?_eq_some_iff.1 HHX.out).1).trans HHX.out)
    obtain ⟨e0, e1, e2, e3, e4, e5⟩ := elder_held HHY.out
    obtain ⟨k, hk⟩ : ∃ k, checkE s.t s.g0 s.g1 s.nx s.free s.es = k := ⟨_, rfl⟩
    have hk3 : k ≤ 3 := by rw [← hk]; exact check_le s
    have HCK : Hid (∀ wx, Below Y.heap.size Y wx → Calls Try.prog 42 #[elderV s.t s.g0 s.g1 s.nx (.slice fo s.free.length fco) (.slice eo s.es.length eco)] wx fun e w' => e = .returned (errV k) ∧ Below wx.heap.size wx w') := fun wx hx => by
      have hi := (HIO.out.below hVY).below hx
      have := check_calls s.t s.g0 s.g1 s.nx s.free fo eo fco eco s.es wx hi.cap hi.rows hi.nums hi.wf
      rw [hk] at this
      exact this
    have HOF : Hid (∀ wx, Below Y.heap.size Y wx → Calls Try.prog 43 #[elderV s.t s.g0 s.g1 s.nx (.slice fa s.free.length fc) (.slice ea s.es.length ec)] wx fun e w' => ∃ p, e = .returned (.pointer (some ⟨p, 0, none⟩)) ∧ GrE wx.heap.size w' p false (upS s) ∧ Below wx.heap.size wx w') := fun wx hx => by
      have hi := (HIN.out.below hWY).below hx
      have := ofElder_calls s.t s.g0 s.g1 s.nx s.free fa ea fc ec s.es wx (by omega) (by omega) hi.rows hi.nums hi.fn
      rw [st0_up HIN.out.born] at this
      exact this
    have HFA : Hid (∀ base wx p, GrE base wx p false (upS s) → Calls Try.prog 44 #[.pointer (some ⟨p, 0, none⟩)] wx fun e w' => e = .returned (.int .i64 k) ∧ Below wx.heap.size wx w') := fun base wx p hg => by
      have := fault_calls base p false (upS s) wx hg
      rw [faultU s, hk] at this
      exact this
    have HSE1 : Hid (∀ wx, Below Y.heap.size Y wx → Calls Try.prog 45 #[elderV R.t R.g0 R.g1 R.nx (.slice fx R.free.length fcx) (.slice ex R.es.length ecx), elderV R.t R.g0 R.g1 R.nx (.slice fy R.free.length fcy) (.slice ey R.es.length ecy)] wx fun e w' => e = .returned (.bool true) ∧ Below wx.heap.size wx w') := fun wx hx =>
      sameElder_calls R.t R.g0 R.g1 R.nx R.free R.es fx ex fy ey fcx ecx fcy ecy wx (by omega) (by omega) ((HNX.out.below HXY.out).below hx) (HNY.out.below hx) ((HRX.out.below HXY.out).below hx) (HRY.out.below hx)
    have HSN : Hid (∀ wx, Below Y.heap.size Y wx → Calls Try.prog 46 #[.slice bx R.born.length bcx, .slice bye R.born.length bcy] wx fun e w' => e = .returned (.bool true) ∧ Below wx.heap.size wx w') := fun wx hx =>
      sameNumbers_calls bx bye bcx bcy R.born wx (by omega) ((HBBX.out.below HXY.out).below hx) (HBBY.out.below hx)
    have HSE2 : Hid (∀ wx, Below Y.heap.size Y wx → Calls Try.prog 45 #[elderV s.t s.g0 s.g1 s.nx (.slice fo s.free.length fco) (.slice eo s.es.length eco), elderV s.t s.g0 s.g1 s.nx (.slice fa s.free.length fc) (.slice ea s.es.length ec)] wx fun e w' => e = .returned (.bool true) ∧ Below wx.heap.size wx w') := fun wx hx =>
      sameElder_calls s.t s.g0 s.g1 s.nx s.free s.es fo eo fa ea fco eco fc ec wx (by omega) (by omega) ((HIO.out.below hVY).below hx).nums ((HIN.out.below hWY).below hx).nums ((HIO.out.below hVY).below hx).rows ((HIN.out.below hWY).below hx).rows
    have HWY := hid hWY
    clear hVY hWY hk HRX HNX HBBX HRY HNY HBBY HHX HHY HXX HYY HXV HRR HCC HHV HIO HBX HXY HWX
    go_cut [93] (fun r wx => r = .bool false ∧ Hid (Below Y.heap.size Y wx))
    case first =>
      have HK1 : Hid True := trivial
      have HK2 : Hid True := trivial
      go_region_held3 (fun w' => Below Y.heap.size Y w') (first | with_reducible assumption | with_reducible exact (Below.refl _ _).drew | with_reducible exact HB2.out)
        (first
          | (go_at_call 42; refine (HCK.out _ (by assumption)).mono ?_; rintro e w2 ⟨rfl, hb2⟩; have HG3 := hid (HGO.out.below hb2); have HB2 : Hid (Below Y.heap.size Y w2) := Below.trans (by assumption) (hb2.mono (Below.size (by assumption))); clear hb2)
          | (go_at_call 42; refine (HCK.out _ (by assumption)).mono ?_; rintro e w2 ⟨rfl, hb2⟩; have HB2 : Hid (Below Y.heap.size Y w2) := Below.trans (by assumption) (hb2.mono (Below.size (by assumption))); clear hb2)
          | (go_at_call 43; refine (HOF.out _ (by assumption)).mono ?_; rintro e w2 ⟨p, rfl, hg2, hb2⟩; have HGO := hid hg2; have HB2 : Hid (Below Y.heap.size Y w2) := Below.trans (by assumption) (hb2.mono (Below.size (by assumption))); clear hb2 hg2)
          | (go_at_call 44; refine (HFA.out _ _ p HG3.out).mono ?_; rintro e w2 ⟨rfl, hb2⟩; have HB2 : Hid (Below Y.heap.size Y w2) := Below.trans (by assumption) (hb2.mono (Below.size (by assumption))); clear hb2)
          | (go_at_call 44; refine (HFA.out _ _ p HGO.out).mono ?_; rintro e w2 ⟨rfl, hb2⟩; have HB2 : Hid (Below Y.heap.size Y w2) := Below.trans (by assumption) (hb2.mono (Below.size (by assumption))); clear hb2)
          | (go_at_call 15; clear HK1; refine (same_true k hk3 _).mono ?_; rintro e w2 ⟨rfl, rfl⟩)
          | (go_at_call 15; refine (same_true c hc3 _).mono ?_; rintro e w2 ⟨rfl, rfl⟩)
          | (go_at_call 45; clear HK2; refine (HSE1.out _ (by assumption)).mono ?_; rintro e w2 ⟨rfl, hb2⟩; have HB2 : Hid (Below Y.heap.size Y w2) := Below.trans (by assumption) (hb2.mono (Below.size (by assumption))); clear hb2)
          | (go_at_call 45; refine (HSE2.out _ (by assumption)).mono ?_; rintro e w2 ⟨rfl, hb2⟩; have HB2 : Hid (Below Y.heap.size Y w2) := Below.trans (by assumption) (hb2.mono (Below.size (by assumption))); clear hb2)
          | (go_at_call 46; refine (HSN.out _ (by assumption)).mono ?_; rintro e w2 ⟨rfl, hb2⟩; have HB2 : Hid (Below Y.heap.size Y w2) := Below.trans (by assumption) (hb2.mono (Below.size (by assumption))); clear hb2))
      all_goals
        go_wp2
        go_meet
        exact ⟨rfl, HB2.out⟩
    case rest =>
      obtain ⟨rfl, HBc⟩ := hcut
      have HWc : Hid (Below W.heap.size W wc) := HWY.out.trans (HBc.out.mono HWY.out.size)
      clear a0 a1 a2 a3 a4 a5 b0 b1 b2 b3 b4 b5 d0 d1 d2 d3 d4 d5 e0 e1 e2 e3 e4 e5 HCK HOF HFA HSE1 HSN HSE2 hk3 hc3 hsm1 hsm2 hsm3
      obtain ⟨P, hP⟩ : ∃ P, playC S ls n = P := ⟨_, rfl⟩
      have hp3 : P.1 ≤ 3 := by rw [← hP]; exact playC_le S ls n
      obtain ⟨hps1, hps2⟩ := playC_small (s := S) (ls := ls) (n := n) HIT.out.born
      rw [hP] at hps1 hps2
      have HPL := hid (play_all S fT eT ta fcT ecT tc ls n wc (HIT.out.below HWc.out) (HT.out.below HWc.out) htc (by omega))
      have HPR : Hid (∀ wx, Below W.heap.size W wx → Calls Try.prog 48 #[tapeV S.t S.g0 S.g1 S.nx (.slice fT S.free.length fcT) (.slice eT S.es.length ecT) (.slice ta ls.length tc), .int .i64 n] wx (AnsP intV P wx)) := fun wx hx => by
        rw [← hP]
        exact playR_all S fT eT ta fcT ecT tc ls n wx (HIT.out.below hx) (by omega) (by omega) (HT.out.below hx) (by omega)
      rw [hP] at HPL
      obtain ⟨y0, y1, y2, y3, y4, y5, y6⟩ := tape_cells ((HWc.out.block (w.heap.size + 1) (by rw [HSW.out]; omega)).trans H1.out)
      clear hP
      go_wp2_with fail
      refine HPL.out.mono ?_
      rintro e w9 ⟨f9, e9, fc9, ec9, rfl, hn9, hr9, hb9⟩
      obtain ⟨A, hA⟩ : ∃ A, w9.alloc (.cells (elC P.2.t P.2.g0 P.2.g1 P.2.nx (.slice f9 P.2.free.length fc9) (.slice e9 P.2.es.length ec9)) 60) = A := ⟨_, rfl⟩
      have hbA : Below w9.heap.size w9 A := by rw [← hA]; exact (Below.refl _ _).alloc (Nat.le_refl _) _
      have hhA : A.heap[w9.heap.size]? = some (.cells (elC P.2.t P.2.g0 P.2.g1 P.2.nx (.slice f9 P.2.free.length fc9) (.slice e9 P.2.es.length ec9)) 60) := by rw [← hA]; exact heap_alloc_new _ _
      have hWA : Below W.heap.size W A := (HWc.out.trans (hb9.mono HWc.out.size)).trans (hbA.mono (Nat.le_trans HWc.out.size hb9.size))
      have HN9 := hid (hn9.below hbA)
      have HR9 := hid (hr9.below hbA)
      have HHA := hid hhA
      have HAA := hid hA
      have HWA := hid hWA
      clear HPL hn9 hr9 hb9 hbA hhA hA y0 y1 y2 y3 y4 y5 y6
      go_upto_region 11 with fail
      rw [HAA.out]
      obtain ⟨y0, y1, y2, y3, y4, y5, y6⟩ := tape_cells ((HWA.out.block (w.heap.size + 1) (by rw [HSW.out]; omega)).trans H1.out)
      clear hWA
      go_wp2_with fail
      refine (HPR.out A HWA.out).mono ?_
      rintro e w10 ⟨f10, e10, fc10, ec10, rfl, hn10, hr10, hb10⟩
      rw [show intV P.1 = .int .i64 (P.1 : Int) from rfl]
      obtain ⟨D, hD⟩ : ∃ D, w10.alloc (.cells (elC P.2.t P.2.g0 P.2.g1 P.2.nx (.slice f10 P.2.free.length fc10) (.slice e10 P.2.es.length ec10)) 60) = D := ⟨_, rfl⟩
      have hbD : Below w10.heap.size w10 D := by rw [← hD]; exact (Below.refl _ _).alloc (Nat.le_refl _) _
      have hhD : D.heap[w10.heap.size]? = some (.cells (elC P.2.t P.2.g0 P.2.g1 P.2.nx (.slice f10 P.2.free.length fc10) (.slice e10 P.2.es.length ec10)) 60) := by rw [← hD]; exact heap_alloc_new _ _
      have hAD : Below A.heap.size A D := hb10.trans (hbD.mono hb10.size)
      obtain ⟨m0, m1, m2, m3, m4, m5⟩ := elder_cells ((hAD.block w9.heap.size (Array.getElem?_eq_some_iff.1 HHA.out).1).trans HHA.out)
      obtain ⟨n0, n1, n2, n3, n4, n5⟩ := elder_cells hhD
      have HSE := hid (sameElder_calls P.2.t P.2.g0 P.2.g1 P.2.nx P.2.free P.2.es f9 e9 f10 e10 fc9 ec9 fc10 ec10 D (by omega) (by omega) (HN9.out.below hAD) (hn10.below hbD) (HR9.out.below hAD) (hr10.below hbD))
      have HSM := hid (same_true P.1 hp3 D)
      have HWD : Hid (Below W.heap.size W D) := HWA.out.trans (hAD.mono HWA.out.size)
      have HDD := hid hD
      clear HPR hn10 hr10 hb10 hbD hhD hD hAD HN9 HR9 HHA HAA HWA y0 y1 y2 y3 y4 y5 y6
      go_upto_region 12 with fail
      rw [HDD.out]
      go_wp2_with fail
      refine HSM.out.mono ?_
      rintro e w11 ⟨rfl, rfl⟩
      go_wp2_with fail
      refine HSE.out.mono ?_
      rintro e w12 ⟨rfl, hb12⟩
      have HF : Hid (Below w.heap.size w w12) := (HBW.out.trans (HWD.out.mono (by rw [HSW.out]; omega))).trans (hb12.mono (by have := HWD.out.size; have := HSW.out; omega))
      clear hb12
      go_wp2
      go_ret
      exact ⟨rfl, HF.out⟩
end Go.Proofs.Ytgiieepfhohmhaa
