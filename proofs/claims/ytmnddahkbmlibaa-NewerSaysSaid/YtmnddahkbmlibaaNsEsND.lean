/- NewerSays: the walk. -/
import Derived.Test.YtmnddahkbmlibaaNsEsNA
import Derived.Test.YtmnddahkbmlibaaNsPlN
import Derived.Test.YtmnddahkbmlibaaNsEsNC
import Derived.Test.YtmnddahkbmlibaaNsPlNC
import Derived.Test.YtmnddahkbmlibaaNsSmN
namespace Go.Proofs.Ytmnddahkbmlibaa
open Go.RowKit Go.Maps
abbrev markO : Array Value := #[.int .i64 0, .int .i64 77, .int .i64 0, .int .i64 0, .int .i64 0, .int .i64 0]
def markR : List Int := [0, 77, 0, 0, 0, 0]
theorem recs_markO (w : World) : Recs (w.alloc (.cells markO 98)) (some ⟨w.heap.size, 0, none⟩) 6 [markR] := recs_oneO w markR _
theorem newer_held {Y : World} {b : Nat} {a0 a1 a2 a3 a4 : Value} (h : Y.heap[b]? = some (.cells #[a0, a1, a2, a3, a4] 90)) :
    (∀ w', Below Y.heap.size Y w' → w'.cell? ⟨b, 0, none⟩ = some a0) ∧ (∀ w', Below Y.heap.size Y w' → w'.cell? ⟨b, 1, none⟩ = some a1) ∧ (∀ w', Below Y.heap.size Y w' → w'.cell? ⟨b, 2, none⟩ = some a2) ∧ (∀ w', Below Y.heap.size Y w' → w'.cell? ⟨b, 3, none⟩ = some a3) ∧ (∀ w', Below Y.heap.size Y w' → w'.cell? ⟨b, 4, none⟩ = some a4) := by
  have k : ∀ w', Below Y.heap.size Y w' → w'.heap[b]? = some (.cells #[a0, a1, a2, a3, a4] 90) := fun w' hb => (hb.block b (Array.getElem?_eq_some_iff.1 h).1).trans h
  exact ⟨fun w' hb => (five_cells (k w' hb)).1, fun w' hb => (five_cells (k w' hb)).2.1, fun w' hb => (five_cells (k w' hb)).2.2.1, fun w' hb => (five_cells (k w' hb)).2.2.2.1, fun w' hb => (five_cells (k w' hb)).2.2.2.2.1⟩
theorem outN_small {s : St} {l : List (List Int)} (hf : s.free = []) : (outSN s l).es.length ≤ 1000 := by
  unfold outSN
  split
  next h =>
    have hI := invN_of_check hf h.1
    have := (invN_step hI (by have := hI.t1; have := h.2; omega) l).el
    omega
  · exact Nat.zero_le _
theorem playN_small : ∀ (ls : List (List (List Int))) (s : St), InvN s → (playON s ls).2.es.length ≤ 1000
  | [], s, h => by
    have := h.el
    exact show s.es.length ≤ 1000 by omega
  | l :: ls, s, h => by
    unfold playON
    split
    next hc => exact playN_small ls _ (next_invN h hc).1
    · exact Nat.zero_le _
theorem playCN_small {s : St} {ls : List (List (List Int))} {n : Int} (hf : s.free = []) : (playCN s ls n).2.es.length ≤ 1000 := by
  unfold playCN
  split
  · exact Nat.zero_le _
  · split
    next hc => exact playN_small _ _ (invN_of_check hf hc)
    · exact Nat.zero_le _
theorem playN_all (s : St) (ua ta : Option Addr) (uc tc : Nat) (ls : List (List (List Int))) (n : Int) (w : World) (h : InW w s ua uc) (ht : TksN w ta ls) (htc : ls.length ≤ tc) (hls : ls.length ≤ 1000) :
    Calls Try.prog 57 #[reelV s.t s.g0 s.g1 s.nx (.slice ua s.es.length uc) (.slice ta ls.length tc), .int .i64 n] w (AnsPN errV (playCN s ls n) w) := by
  by_cases hn : n < 0 ∨ (ls.length : Int) < n
  · have e : playCN s ls n = (1, zeroS) := by unfold playCN; rw [if_pos hn]
    rw [e]
    exact playN_bound s ua ta uc tc ls n w hn
  · by_cases hc : ckN s = 0
    · have e : playCN s ls n = playON s (ls.take n.toNat) := by unfold playCN; rw [if_neg hn, if_pos hc]
      have en : n = (n.toNat : Int) := by omega
      rw [e]
      have := playN_good s ua ta uc tc ls w h ht htc hls n.toNat (by omega) hc
      rw [← en] at this
      exact this
    · have e : playCN s ls n = (ckN s, zeroS) := by unfold playCN; rw [if_neg hn, if_neg hc]
      rw [e]
      exact playN_check s ua ta uc tc ls n w h (by omega) (by omega) hc
theorem playNR_all (s : St) (ua ta : Option Addr) (uc tc : Nat) (ls : List (List (List Int))) (n : Int) (w : World) (h : InW w s ua uc) (hne : s.es.length ≤ 1000) (ht : TksN w ta ls) (hls : ls.length ≤ 1000) :
    Calls Try.prog 58 #[reelV s.t s.g0 s.g1 s.nx (.slice ua s.es.length uc) (.slice ta ls.length tc), .int .i64 n] w (AnsPN intV (playCN s ls n) w) := by
  by_cases hn : n < 0 ∨ (ls.length : Int) < n
  · have e : playCN s ls n = (1, zeroS) := by unfold playCN; rw [if_pos hn]
    rw [e]
    exact playNR_bound s ua ta uc tc ls n w hn
  · by_cases hc : ckN s = 0
    · have e : playCN s ls n = playON s (ls.take n.toNat) := by unfold playCN; rw [if_neg hn, if_pos hc]
      have en : n = (n.toNat : Int) := by omega
      rw [e]
      have := playNR_good s ua ta uc tc ls w h ht hls n.toNat (by omega) hc
      rw [← en] at this
      exact this
    · have e : playCN s ls n = (ckN s, zeroS) := by unfold playCN; rw [if_neg hn, if_neg hc]
      rw [e]
      exact playNR_check s ua ta uc tc ls n w h hne (by omega) (by omega) hc
set_option maxRecDepth 100000 in
set_option maxHeartbeats 8000000 in
theorem saysN_calls (s S : St) (ua la uT ta : Option Addr) (uc lc ucT tc : Nat) (l : List (List Int)) (ls : List (List (List Int))) (n : Int) (w : World) (h : InW w s ua uc) (hl : Recs w la 6 l) (hln : la = none → lc = 0) (hS : InW w S uT ucT) (ht : TksN w ta ls) (htc : ls.length ≤ tc) :
    Calls Try.prog 9 #[newerV s.t s.g0 s.g1 s.nx (.slice ua s.es.length uc), .slice la l.length lc, reelV S.t S.g0 S.g1 S.nx (.slice uT S.es.length ucT) (.slice ta ls.length tc), .int .i64 n] w fun e w' => e = .returned (.bool true) ∧ Below w.heap.size w w' := by
  obtain ⟨W, hW⟩ : ∃ W, (w.alloc (.cells (newerC s.t s.g0 s.g1 s.nx (.slice ua s.es.length uc)) 90)).alloc (.cells (reelC S.t S.g0 S.g1 S.nx (.slice uT S.es.length ucT) (.slice ta ls.length tc)) 94) = W := ⟨_, rfl⟩
  have hbW : Below w.heap.size w W := by rw [← hW]; exact ((Below.refl _ w).alloc (Nat.le_refl _) _).alloc (by simp [go_sem]) _
  have hsW : W.heap.size = w.heap.size + 2 := by rw [← hW]; simp [go_sem]
  have hh0 : W.heap[w.heap.size]? = some (.cells (newerC s.t s.g0 s.g1 s.nx (.slice ua s.es.length uc)) 90) := by
    rw [← hW, heap_alloc_old _ _ (by simp [go_sem])]
    exact heap_alloc_new w _
  have hh1 : W.heap[w.heap.size + 1]? = some (.cells (reelC S.t S.g0 S.g1 S.nx (.slice uT S.es.length ucT) (.slice ta ls.length tc)) 94) := by
    have e : w.heap.size + 1 = (w.alloc (.cells (newerC s.t s.g0 s.g1 s.nx (.slice ua s.es.length uc)) 90)).heap.size := by simp [go_sem]
    rw [← hW, e]
    exact heap_alloc_new _ _
  have HBW := hid hbW
  have HSW := hid hsW
  have H0 := hid hh0
  have H1 := hid hh1
  have HIN := hid (h.below hbW)
  have HIT := hid (hS.below hbW)
  have HL := hid (hl.below hbW)
  have HLN := hid hln
  have HT := hid (ht.below hbW)
  clear h hl hln hS ht hbW hsW hh0 hh1
  go_enter Try.func9, Try.ntmps9
  go_wp2_with fail
  refine (too_calls W).mono ?_
  rintro e w2 ⟨rfl, hb1⟩
  obtain ⟨_, _, _, _, x4, _⟩ := five_cells ((hb1.block w.heap.size (by rw [HSW.out]; omega)).trans H0.out)
  have HB2 := hid hb1
  clear hb1 hW
  by_cases hlt : s.es.length ≤ 25
  case neg =>
    have hz : (25 : Int) < (s.es.length : Int) := by omega
    have HF : Hid (Below w.heap.size w w2) := HBW.out.trans (HB2.out.mono (by rw [HSW.out]; omega))
    go_wp2
    go_ret
    exact ⟨rfl, HF.out⟩
  have hz25 : ¬ (25 : Int) < (s.es.length : Int) := by omega
  by_cases h12 : l.length ≤ 12
  case neg =>
    have hz : (12 : Int) < (l.length : Int) := by omega
    have HF : Hid (Below w.heap.size w w2) := HBW.out.trans (HB2.out.mono (by rw [HSW.out]; omega))
    go_wp2
    go_ret
    exact ⟨rfl, HF.out⟩
  have hz : ¬ (12 : Int) < (l.length : Int) := by omega
  obtain ⟨y0, y1, y2, y3, y4, y5⟩ := reel_cells ((HB2.out.block (w.heap.size + 1) (by rw [HSW.out]; omega)).trans H1.out)
  go_wp2_with fail
  refine (lightReel_calls S uT ta ucT tc ls w2 (HT.out.below HB2.out)).mono ?_
  rintro e w3 ⟨b, rfl, hlight, hb3⟩
  have HB3 : Hid (Below W.heap.size W w3) := HB2.out.trans (hb3.mono HB2.out.size)
  clear hb3 HB2 y0 y1 y2 y3 y4 y5 x4
  cases b with
  | false =>
    have HF : Hid (Below w.heap.size w w3) := HBW.out.trans (HB3.out.mono (by rw [HSW.out]; omega))
    go_wp2
    go_ret
    exact ⟨rfl, HF.out⟩
  | true =>
    obtain ⟨h70, hE25⟩ := hlight rfl
    clear hlight
    obtain ⟨x0, x1, x2, x3, x4, _⟩ := five_cells ((HB3.out.block w.heap.size (by rw [HSW.out]; omega)).trans H0.out)
    have hin3 := HIN.out.below HB3.out
    have HOW := hid (ownNewer_calls s.t s.g0 s.g1 s.nx ua uc s.es w3 hin3.un (by omega) hin3.rows)
    clear hin3
    go_wp2_with fail
    refine HOW.out.mono ?_
    rintro e w4 ⟨eo, eco, rfl, hro, hco, heo, hb4⟩
    have HB4 : Hid (Below W.heap.size W w4) := HB3.out.trans (hb4.mono HB3.out.size)
    obtain ⟨V, hV⟩ : ∃ V, w4.alloc (.cells (newerC s.t s.g0 s.g1 s.nx (.slice eo s.es.length eco)) 90) = V := ⟨_, rfl⟩
    have hbV : Below w4.heap.size w4 V := by rw [← hV]; exact (Below.refl _ _).alloc (Nat.le_refl _) _
    have hhV : V.heap[w4.heap.size]? = some (.cells (newerC s.t s.g0 s.g1 s.nx (.slice eo s.es.length eco)) 90) := by rw [← hV]; exact heap_alloc_new _ _
    have HBV : Hid (Below W.heap.size W V) := HB4.out.trans (hbV.mono HB4.out.size)
    have HIO : Hid (InW V s eo eco) := ⟨(fun e => absurd e heo), hco, hro.below hbV, HIN.out.fr, HIN.out.born⟩
    have HHV := hid hhV
    clear HOW hro hco heo hb4 hbV hhV HB4 HB3 x0 x1 x2 x3 x4
    have HXV := hid hV
    clear hV
    go_upto_region 5 with fail
    rw [HXV.out]
    have HLV := hid (HL.out.below HBV.out)
    have hVW := HBV.out.size
    go_wp2_with (first
      | (at_builtin; refine wp_rowsO V (by rfl) (.const (.slice none 0 0)) (.tmp 40) (by rfl) V.heap.size (.slice none 0 0) [] (by rfl) (World.ownsRow_nil _ _ _ _) la lc l (by rfl) HLV.out HLN.out (by simp; omega) (Nat.le_refl _) ?_
         intro v5 w5 hr5 hg5 hl5
         rw [List.nil_append] at hr5
         have HB5 := hid (grown_below hg5)
         have HR5 := hid hr5
         obtain ⟨va5, vc5, rfl, _, _, _⟩ := hr5.open
         clear hr5 hg5 hl5)
      | (at_builtin; refine wp_rowsO (w5.alloc (.cells markO 98)) (by rfl) (.tmp 41) (.tmp 43) (by rfl) V.heap.size (.slice va5 l.length vc5) l (by rfl) (World.ownsRow.alloc HR5.out _) (some ⟨w5.heap.size, 0, none⟩) 1 [markR] (by rfl) (recs_markO w5) (fun h => by cases h) (show l.length + 1 ≤ 100000 by omega) (by have := HB5.out.size; simp [go_sem]; omega) ?_
         intro v6 w6 hr6 hg6 hl6
         have hb6 : Below V.heap.size V w6 := (HB5.out.alloc HB5.out.size _).grown hg6 (by have := HB5.out.size; simp [go_sem]; omega) (fun k hk => (World.ownsRow.lt HR5.out k hk).1)
         have hr6' := hr6
         obtain ⟨va6, vc6, rfl, _, _, _⟩ := hr6'.open
         obtain ⟨hrq, hcq⟩ := rowO_front hr6
         have hcz : (l.length : Int) ≤ (vc6 : Int) := by omega
         obtain ⟨o0, o1, o2, o3, o4, _⟩ := five_cells ((hb6.block w4.heap.size (Array.getElem?_eq_some_iff.1 HHV.out).1).trans HHV.out)
         have HRQ := hid hrq
         have HB6 := hid hb6
         clear hr6 hr6' hg6 hl6 hb6 hrq hcq))
    refine (stepN_all s eo va6 eco vc6 l w6 (HIO.out.below HB6.out) HRQ.out).mono ?_
    rintro e w7 ⟨ex, rfl, h1, hb7⟩
    obtain ⟨ex, ecx, rfl, _, hrx, _⟩ := h1.open
    obtain ⟨R, hR⟩ : ∃ R, outSN s l = R := ⟨_, rfl⟩
    obtain ⟨c, hc⟩ : ∃ c, outCN s l = c := ⟨_, rfl⟩
    have hc3 : c ≤ 3 := by rw [← hc]; exact outCN_le s l
    have HRR := hid hR
    have HCC := hid hc
    rw [hR] at hrx
    rw [hR, hc]
    obtain ⟨X, hX⟩ : ∃ X, w7.alloc (.cells (newerC R.t R.g0 R.g1 R.nx (.slice ex R.es.length ecx)) 90) = X := ⟨_, rfl⟩
    have hbX : Below w7.heap.size w7 X := by rw [← hX]; exact (Below.refl _ _).alloc (Nat.le_refl _) _
    have hhX : X.heap[w7.heap.size]? = some (.cells (newerC R.t R.g0 R.g1 R.nx (.slice ex R.es.length ecx)) 90) := by rw [← hX]; exact heap_alloc_new _ _
    have HB7 : Hid (Below V.heap.size V w7) := HB6.out.trans (hb7.mono HB6.out.size)
    have HBX : Hid (Below V.heap.size V X) := HB7.out.trans (hbX.mono HB7.out.size)
    have HRX := hid (hrx.below hbX)
    have HHX := hid hhX
    have HXX := hid hX
    clear hR hc h1 hb7 hrx hbX hhX hX HB5 HR5 HB6 HRQ HB7 HLV o0 o1 o2 o3 o4
    go_upto_region 7 with fail
    rw [HXX.out]
    have hWX : Below W.heap.size W X := HBV.out.trans (HBX.out.mono hVW)
    obtain ⟨x0, x1, x2, x3, x4, _⟩ := five_cells ((hWX.block w.heap.size (by rw [HSW.out]; omega)).trans H0.out)
    have HWX := hid hWX
    have HSR := hid (stepNR_all s ua la uc lc l X (HIN.out.below hWX) (by omega) (HL.out.below hWX))
    clear hWX
    go_wp2_with fail
    refine HSR.out.mono ?_
    rintro e w8 ⟨ey, rfl, h1, hb8⟩
    obtain ⟨ey, ecy, rfl, _, hry, _⟩ := h1.open
    rw [HRR.out] at hry
    rw [HRR.out, HCC.out, show intV c = .int .i64 (c : Int) from rfl]
    obtain ⟨Y, hY⟩ : ∃ Y, w8.alloc (.cells (newerC R.t R.g0 R.g1 R.nx (.slice ey R.es.length ecy)) 90) = Y := ⟨_, rfl⟩
    have hbY : Below w8.heap.size w8 Y := by rw [← hY]; exact (Below.refl _ _).alloc (Nat.le_refl _) _
    have hhY : Y.heap[w8.heap.size]? = some (.cells (newerC R.t R.g0 R.g1 R.nx (.slice ey R.es.length ecy)) 90) := by rw [← hY]; exact heap_alloc_new _ _
    have hXY : Below X.heap.size X Y := hb8.trans (hbY.mono hb8.size)
    have HRY := hid (hry.below hbY)
    have HHY := hid hhY
    have HYY := hid hY
    have HXY := hid hXY
    clear h1 hb8 hry hbY hhY hY hXY HSR x0 x1 x2 x3 x4
    go_upto_region 8 with fail
    rw [HYY.out]
    have hVY : Below V.heap.size V Y := HBX.out.trans (HXY.out.mono HBX.out.size)
    have hWY : Below W.heap.size W Y := HWX.out.trans (HXY.out.mono HWX.out.size)
    have hsm1 := outN_small (l := l) HIN.out.fr
    rw [HRR.out] at hsm1
    obtain ⟨a0, a1, a2, a3, a4⟩ := newer_held ((hVY.block w4.heap.size (Array.getElem?_eq_some_iff.1 HHV.out).1).trans HHV.out)
    obtain ⟨b0, b1, b2, b3, b4⟩ := newer_held ((hWY.block w.heap.size (by rw [HSW.out]; omega)).trans H0.out)
    obtain ⟨d0, d1, d2, d3, d4⟩ := newer_held ((HXY.out.block w7.heap.size (Array.getElem?_eq_some_iff.1 HHX.out).1).trans HHX.out)
    obtain ⟨e0, e1, e2, e3, e4⟩ := newer_held HHY.out
    obtain ⟨k, hk⟩ : ∃ k, checkN s.t s.g0 s.g1 s.nx s.es = k := ⟨_, rfl⟩
    have hk3 : k ≤ 3 := by rw [← hk]; exact checkN_le s
    have HCK : Hid (∀ wx, Below Y.heap.size Y wx → Calls Try.prog 54 #[newerV s.t s.g0 s.g1 s.nx (.slice eo s.es.length eco)] wx fun e w' => e = .returned (errV k) ∧ Below wx.heap.size wx w') := fun wx hx => by
      have hi := (HIO.out.below hVY).below hx
      have := checkNewer_calls s.t s.g0 s.g1 s.nx s.es eo eco wx hi.rows
      rw [hk] at this
      exact this
    have HOF : Hid (∀ wx, Below Y.heap.size Y wx → Calls Try.prog 55 #[newerV s.t s.g0 s.g1 s.nx (.slice ua s.es.length uc)] wx fun e w' => ∃ p, e = .returned (.pointer (some ⟨p, 0, none⟩)) ∧ GrE wx.heap.size w' p true s ∧ Below wx.heap.size wx w') := fun wx hx => by
      have hi := (HIN.out.below hWY).below hx
      have := ofNewer_calls s.t s.g0 s.g1 s.nx ua uc s.es wx (by omega) hi.rows hi.un
      rw [st0_N hi.fr hi.born] at this
      exact this
    have HFA : Hid (∀ base wx p, GrE base wx p true s → Calls Try.prog 44 #[.pointer (some ⟨p, 0, none⟩)] wx fun e w' => e = .returned (.int .i64 k) ∧ Below wx.heap.size wx w') := fun base wx p hg => by
      have := fault_calls base p true s wx hg
      rw [faultN s HIN.out.fr, hk] at this
      exact this
    have HSE1 : Hid (∀ wx, Below Y.heap.size Y wx → Calls Try.prog 56 #[newerV R.t R.g0 R.g1 R.nx (.slice ex R.es.length ecx), newerV R.t R.g0 R.g1 R.nx (.slice ey R.es.length ecy)] wx fun e w' => e = .returned (.bool true) ∧ Below wx.heap.size wx w') := fun wx hx =>
      sameNewer_calls R.t R.g0 R.g1 R.nx R.es ex ey ecx ecy wx (by omega) ((HRX.out.below HXY.out).below hx) (HRY.out.below hx)
    have HSE2 : Hid (∀ wx, Below Y.heap.size Y wx → Calls Try.prog 56 #[newerV s.t s.g0 s.g1 s.nx (.slice eo s.es.length eco), newerV s.t s.g0 s.g1 s.nx (.slice ua s.es.length uc)] wx fun e w' => e = .returned (.bool true) ∧ Below wx.heap.size wx w') := fun wx hx =>
      sameNewer_calls s.t s.g0 s.g1 s.nx s.es eo ua eco uc wx (by omega) ((HIO.out.below hVY).below hx).rows ((HIN.out.below hWY).below hx).rows
    have HWY := hid hWY
    clear hVY hWY hk HRX HRY HHX HHY HXX HYY HXV HRR HCC HHV HIO HBX HXY HWX
    go_cut [84] (fun r wx => r = .bool false ∧ Hid (Below Y.heap.size Y wx))
    case first =>
      have HK1 : Hid True := trivial
      have HK2 : Hid True := trivial
      go_region_held3 (fun w' => Below Y.heap.size Y w') (first | with_reducible assumption | with_reducible exact (Below.refl _ _).drew | with_reducible exact HB2.out)
        (first
          | (go_at_call 54; refine (HCK.out _ (by assumption)).mono ?_; rintro e w2 ⟨rfl, hb2⟩; have HG3 := hid (HGO.out.below hb2); have HB2 : Hid (Below Y.heap.size Y w2) := Below.trans (by assumption) (hb2.mono (Below.size (by assumption))); clear hb2)
          | (go_at_call 54; refine (HCK.out _ (by assumption)).mono ?_; rintro e w2 ⟨rfl, hb2⟩; have HB2 : Hid (Below Y.heap.size Y w2) := Below.trans (by assumption) (hb2.mono (Below.size (by assumption))); clear hb2)
          | (go_at_call 55; refine (HOF.out _ (by assumption)).mono ?_; rintro e w2 ⟨p, rfl, hg2, hb2⟩; have HGO := hid hg2; have HB2 : Hid (Below Y.heap.size Y w2) := Below.trans (by assumption) (hb2.mono (Below.size (by assumption))); clear hb2 hg2)
          | (go_at_call 44; refine (HFA.out _ _ p HG3.out).mono ?_; rintro e w2 ⟨rfl, hb2⟩; have HB2 : Hid (Below Y.heap.size Y w2) := Below.trans (by assumption) (hb2.mono (Below.size (by assumption))); clear hb2)
          | (go_at_call 44; refine (HFA.out _ _ p HGO.out).mono ?_; rintro e w2 ⟨rfl, hb2⟩; have HB2 : Hid (Below Y.heap.size Y w2) := Below.trans (by assumption) (hb2.mono (Below.size (by assumption))); clear hb2)
          | (go_at_call 15; clear HK1; refine (same_true k hk3 _).mono ?_; rintro e w2 ⟨rfl, rfl⟩)
          | (go_at_call 15; refine (same_true c hc3 _).mono ?_; rintro e w2 ⟨rfl, rfl⟩)
          | (go_at_call 56; clear HK2; refine (HSE1.out _ (by assumption)).mono ?_; rintro e w2 ⟨rfl, hb2⟩; have HB2 : Hid (Below Y.heap.size Y w2) := Below.trans (by assumption) (hb2.mono (Below.size (by assumption))); clear hb2)
          | (go_at_call 56; refine (HSE2.out _ (by assumption)).mono ?_; rintro e w2 ⟨rfl, hb2⟩; have HB2 : Hid (Below Y.heap.size Y w2) := Below.trans (by assumption) (hb2.mono (Below.size (by assumption))); clear hb2))
      all_goals
        go_wp2
        go_meet
        exact ⟨rfl, HB2.out⟩
    case rest =>
      obtain ⟨rfl, HBc⟩ := hcut
      have HWc : Hid (Below W.heap.size W wc) := HWY.out.trans (HBc.out.mono HWY.out.size)
      clear a0 a1 a2 a3 a4 b0 b1 b2 b3 b4 d0 d1 d2 d3 d4 e0 e1 e2 e3 e4 HCK HOF HFA HSE1 HSE2 hk3 hc3 hsm1
      obtain ⟨P, hP⟩ : ∃ P, playCN S ls n = P := ⟨_, rfl⟩
      have hp3 : P.1 ≤ 3 := by rw [← hP]; exact playCN_le S ls n
      have hps1 := playCN_small (s := S) (ls := ls) (n := n) HIT.out.fr
      rw [hP] at hps1
      have HPL := hid (playN_all S uT ta ucT tc ls n wc (HIT.out.below HWc.out) (HT.out.below HWc.out) htc (by omega))
      have HPR : Hid (∀ wx, Below W.heap.size W wx → Calls Try.prog 58 #[reelV S.t S.g0 S.g1 S.nx (.slice uT S.es.length ucT) (.slice ta ls.length tc), .int .i64 n] wx (AnsPN intV P wx)) := fun wx hx => by
        rw [← hP]
        exact playNR_all S uT ta ucT tc ls n wx (HIT.out.below hx) (by omega) (HT.out.below hx) (by omega)
      rw [hP] at HPL
      obtain ⟨y0, y1, y2, y3, y4, y5⟩ := reel_cells ((HWc.out.block (w.heap.size + 1) (by rw [HSW.out]; omega)).trans H1.out)
      clear hP
      go_wp2_with fail
      refine HPL.out.mono ?_
      rintro e w9 ⟨e9, ec9, rfl, hr9, hb9⟩
      obtain ⟨A, hA⟩ : ∃ A, w9.alloc (.cells (newerC P.2.t P.2.g0 P.2.g1 P.2.nx (.slice e9 P.2.es.length ec9)) 90) = A := ⟨_, rfl⟩
      have hbA : Below w9.heap.size w9 A := by rw [← hA]; exact (Below.refl _ _).alloc (Nat.le_refl _) _
      have hhA : A.heap[w9.heap.size]? = some (.cells (newerC P.2.t P.2.g0 P.2.g1 P.2.nx (.slice e9 P.2.es.length ec9)) 90) := by rw [← hA]; exact heap_alloc_new _ _
      have hWA : Below W.heap.size W A := (HWc.out.trans (hb9.mono HWc.out.size)).trans (hbA.mono (Nat.le_trans HWc.out.size hb9.size))
      have HR9 := hid (hr9.below hbA)
      have HHA := hid hhA
      have HAA := hid hA
      have HWA := hid hWA
      clear HPL hr9 hb9 hbA hhA hA y0 y1 y2 y3 y4 y5
      go_upto_region 11 with fail
      rw [HAA.out]
      obtain ⟨y0, y1, y2, y3, y4, y5⟩ := reel_cells ((HWA.out.block (w.heap.size + 1) (by rw [HSW.out]; omega)).trans H1.out)
      clear hWA
      go_wp2_with fail
      refine (HPR.out A HWA.out).mono ?_
      rintro e w10 ⟨e10, ec10, rfl, hr10, hb10⟩
      rw [show intV P.1 = .int .i64 (P.1 : Int) from rfl]
      obtain ⟨D, hD⟩ : ∃ D, w10.alloc (.cells (newerC P.2.t P.2.g0 P.2.g1 P.2.nx (.slice e10 P.2.es.length ec10)) 90) = D := ⟨_, rfl⟩
      have hbD : Below w10.heap.size w10 D := by rw [← hD]; exact (Below.refl _ _).alloc (Nat.le_refl _) _
      have hhD : D.heap[w10.heap.size]? = some (.cells (newerC P.2.t P.2.g0 P.2.g1 P.2.nx (.slice e10 P.2.es.length ec10)) 90) := by rw [← hD]; exact heap_alloc_new _ _
      have hAD : Below A.heap.size A D := hb10.trans (hbD.mono hb10.size)
      obtain ⟨m0, m1, m2, m3, m4, _⟩ := five_cells ((hAD.block w9.heap.size (Array.getElem?_eq_some_iff.1 HHA.out).1).trans HHA.out)
      obtain ⟨n0, n1, n2, n3, n4, _⟩ := five_cells hhD
      have HSE := hid (sameNewer_calls P.2.t P.2.g0 P.2.g1 P.2.nx P.2.es e9 e10 ec9 ec10 D (by omega) (HR9.out.below hAD) (hr10.below hbD))
      have HSM := hid (same_true P.1 hp3 D)
      have HWD : Hid (Below W.heap.size W D) := HWA.out.trans (hAD.mono HWA.out.size)
      have HDD := hid hD
      clear HPR hr10 hb10 hbD hhD hD hAD HR9 HHA HAA HWA y0 y1 y2 y3 y4 y5
      go_upto_region 12 with fail
      rw [HDD.out]
      go_wp2_with fail
      refine HSM.out.mono ?_
      rintro e w11 ⟨rfl, rfl⟩
      go_wp2_with fail
      refine HSE.out.mono ?_
      rintro e w12 ⟨rfl, hb12⟩
      have HF : Hid (Below w.heap.size w w12) := (HBW.out.trans (HWD.out.mono (by rw [HSW.out]; omega))).trans (hb12.mono (by have := HWD.out.size; have := HSW.out; omega))
      clear hb12
      go_wp2
      go_ret
      exact ⟨rfl, HF.out⟩
end Go.Proofs.Ytmnddahkbmlibaa
