/- SnapStates: the walk. -/
import Derived.Deep.DeepCutAuto
import Derived.BigRegion
import Derived.Test.YtcbalhicaipmlaaGreatRElA
import Derived.Test.YtcbalhicaipmlaaGreatRNwK
import Derived.Test.YtcbalhicaipmlaaGreatRRefQ
import Derived.Test.YtcbalhicaipmlaaGreatRWire3
import Derived.Test.YtcbalhicaipmlaaGreatRSnJ
import Derived.Test.YtcbalhicaipmlaaGreatREsRA
import Derived.Test.YtcbalhicaipmlaaGreatRSnB
import Derived.Test.YtcbalhicaipmlaaGreatRWire6
import Derived.Test.YtcbalhicaipmlaaGreatRCkC
import Derived.Test.YtcbalhicaipmlaaGreatRSmN
import Derived.Test.YtcbalhicaipmlaaGreatRSnY
import Derived.Test.YtcbalhicaipmlaaGreatRRlC
namespace Go.Proofs.YtcbalhicaipmlaaGreat
open Go.RowKit Go.Maps
def svS : St := ⟨0, 0, 0, 1, [], [], []⟩
def svB : List UInt8 := frameL 69 (numsL (elderN svS))
theorem sv_c : checkE 0 0 0 1 [] [] = 0 := by decide +kernel
theorem sv_inv : Inv svS := inv_of_check (s := svS) sv_c
theorem sv_by : byE svS = svB := if_pos sv_c
theorem sv_rd : rdE svB = (0, svS) := rdE_by sv_inv rfl
theorem sv_len : 8 < svB.length := by
  unfold svB
  rw [frameL_length]
  have : numsL (elderN svS) ≠ [] := numsL_ne _ _
  have h : 0 < (numsL (elderN svS)).length := List.length_pos_iff.2 this
  omega
theorem svB_le : svB.length ≤ 10000 := by
  unfold svB
  rw [frameL_length]
  have h1 := numsL_length (elderN svS)
  have h2 := elderN_length (smlE sv_inv rfl)
  omega
set_option maxRecDepth 100000 in
set_option maxHeartbeats 8000000 in
theorem saves_calls (w : World) : Calls Tryz.prog 5 #[] w fun e w' => e = .returned (.bool true) ∧ Below w.heap.size w w' := by
  have HB : Hid (Calls Tryz.prog 30 #[.agg #[.int .i64 0, .int .i64 0, .int .i64 0, .int .i64 1, .slice none 0 0, .slice none 0 0]] w fun e w' => e = .returned (.tuple #[.string ⟨svB.toArray⟩, .nilIface]) ∧ Below w.heap.size w w') := by
    have h := bytesE_calls svS none none 0 0 w ⟨fun _ => rfl, fun _ => rfl, Nat.le_refl _, Or.inl rfl, Or.inl rfl, fun _ hi => absurd hi (Nat.not_lt_zero _), rfl⟩
    rw [sv_by, show checkE svS.t svS.g0 svS.g1 svS.nx svS.free svS.es = 0 from sv_c] at h
    exact h
  have HOF : Hid (∀ wx, Calls Tryz.prog 22 #[.string ⟨svB.toArray⟩] wx fun e w' => ∃ fa ea fc ec, e = .returned (.tuple #[elderV 0 0 0 1 (.slice fa 0 fc) (.slice ea 0 ec), .nilIface]) ∧ Below wx.heap.size wx w') := fun wx => by
    refine (elderOf_calls svB svB_le wx).mono ?_
    rintro e w' ⟨fa, ea, fc, ec, he, _, hb⟩
    rw [sv_rd] at he
    exact ⟨fa, ea, fc, ec, he, hb⟩
  have hl : 8 < svB.length := sv_len
  have hlz : (8 : Int) < (svB.length : Int) := by omega
  generalize svB = B at HB HOF hl hlz
  go_enter Tryz.func5, Tryz.ntmps5
  go_wp2_with fail
  refine HB.out.mono ?_
  rintro e w2 ⟨rfl, hb2⟩
  have HB2 := hid hb2
  clear hb2 HB
  go_wp2_with fail
  refine (HOF.out w2).mono ?_
  rintro e w3 ⟨fa, ea, fc, ec, rfl, hb3⟩
  obtain ⟨V, hV⟩ : ∃ V, w3.alloc (.cells (elC 0 0 0 1 (.slice fa 0 fc) (.slice ea 0 ec)) 26) = V := ⟨_, rfl⟩
  have hbV : Below w3.heap.size w3 V := by rw [← hV]; exact (Below.refl _ _).alloc (Nat.le_refl _) _
  have hhV : V.heap[w3.heap.size]? = some (.cells (elC 0 0 0 1 (.slice fa 0 fc) (.slice ea 0 ec)) 26) := by rw [← hV]; exact heap_alloc_new _ _
  obtain ⟨x0, x1, x2, x3, x4, x5⟩ := elder_cells hhV
  have HBV : Hid (Below w.heap.size w V) := (HB2.out.trans (hb3.mono HB2.out.size)).trans (hbV.mono (Nat.le_trans HB2.out.size hb3.size))
  have HSM : Hid (Calls Tryz.prog 10 #[.nilIface, .int .i64 0] V fun e w' => e = .returned (.bool true) ∧ w' = V) := same_true 0 (by omega) V
  clear hb3 hbV hhV HOF
  go_wp2_with fail
  refine HSM.out.mono ?_
  rintro e w4 ⟨rfl, hw4⟩
  rw [hw4]
  clear hw4 w4
  go_wp2_with fail
  refine HSM.out.mono ?_
  rintro e w4 ⟨rfl, hw4⟩
  rw [hw4]
  clear hw4 w4
  go_wp2
  go_ret
  exact ⟨rfl, HBV.out⟩
end Go.Proofs.YtcbalhicaipmlaaGreat
namespace Go.Proofs.YtcbalhicaipmlaaGreat
open Go.RowKit
theorem cmd_eq (u : List Int) (w : World) : (Op.equalIn 10000 85 (cmdV u) (cmdV u)).run Tryz.prog w = .ok true w := by
  rw [run_equalIn_struct w 9999 85 _ _ (by kernel_rfl) (by kernel_rfl)]
  simp [go_sem]
theorem tks_held {W : World} {ta : Option Addr} {ls : List (List (List Int))} (h : Tks W ta ls) {i : Nat} (hi : i < ls.length) : ∃ b o la lc, ta = some ⟨b, o, none⟩ ∧ ∀ wx, Below W.heap.size W wx → wx.cell? ⟨b, o + i, none⟩ = some (.slice la (ls.getD i []).length lc) ∧ Recs wx la 7 (ls.getD i []) := by
  obtain ⟨b, o, la, lc, h1, h2, h3⟩ := h.at hi
  exact ⟨b, o, la, lc, h1, fun wx hx => ⟨(hx.cell (p := ⟨b, o + i, none⟩) (World.block_lt_of_cell? W _ h2)).trans h2, h3.below hx⟩⟩
set_option maxRecDepth 100000 in
set_option maxHeartbeats 8000000 in
theorem sameTape_calls (s : St) (ls : List (List (List Int))) (fa ea ta fb eb tb : Option Addr) (fc ec tc fd ed td : Nat) (w : World) (hfl : s.free.length ≤ 100000) (hel : s.es.length ≤ 100000) (g1 : Nums w fa s.free) (g2 : Nums w fb s.free) (g3 : Recs w ea 10 s.es) (g4 : Recs w eb 10 s.es) (h8 : ∀ j, j < ls.length → (ls.getD j []).length ≤ 1000) (hn : ls.length ≤ 1000) (h1 : Tks w ta ls) (h2 : Tks w tb ls) :
    Calls Tryz.prog 15 #[tapeV s.t s.g0 s.g1 s.nx (.slice fa s.free.length fc) (.slice ea s.es.length ec) (.slice ta ls.length tc), tapeV s.t s.g0 s.g1 s.nx (.slice fb s.free.length fd) (.slice eb s.es.length ed) (.slice tb ls.length td)] w fun e w' => e = .returned (.bool true) ∧ Below w.heap.size w w' := by
  obtain ⟨W, hW⟩ : ∃ W, (w.alloc (.cells (tapeC s.t s.g0 s.g1 s.nx (.slice fa s.free.length fc) (.slice ea s.es.length ec) (.slice ta ls.length tc)) 29)).alloc (.cells (tapeC s.t s.g0 s.g1 s.nx (.slice fb s.free.length fd) (.slice eb s.es.length ed) (.slice tb ls.length td)) 29) = W := ⟨_, rfl⟩
  have hbW : Below w.heap.size w W := by rw [← hW]; exact ((Below.refl _ w).alloc (Nat.le_refl _) _).alloc (by simp [go_sem]) _
  have hsW : W.heap.size = w.heap.size + 2 := by rw [← hW]; simp [go_sem]
  have hh0 : W.heap[w.heap.size]? = some (.cells (tapeC s.t s.g0 s.g1 s.nx (.slice fa s.free.length fc) (.slice ea s.es.length ec) (.slice ta ls.length tc)) 29) := by
    rw [← hW, heap_alloc_old _ _ (by simp [go_sem])]
    exact heap_alloc_new w _
  have hh1 : W.heap[w.heap.size + 1]? = some (.cells (tapeC s.t s.g0 s.g1 s.nx (.slice fb s.free.length fd) (.slice eb s.es.length ed) (.slice tb ls.length td)) 29) := by
    have e : w.heap.size + 1 = (w.alloc (.cells (tapeC s.t s.g0 s.g1 s.nx (.slice fa s.free.length fc) (.slice ea s.es.length ec) (.slice ta ls.length tc)) 29)).heap.size := by simp [go_sem]
    rw [← hW, e]
    exact heap_alloc_new _ _
  have HA := hid (h1.below hbW)
  have HB := hid (h2.below hbW)
  have HBW := hid hbW
  have HSW := hid hsW
  have H0 : Hid (∀ wx, Below W.heap.size W wx → wx.heap[w.heap.size]? = some (.cells (tapeC s.t s.g0 s.g1 s.nx (.slice fa s.free.length fc) (.slice ea s.es.length ec) (.slice ta ls.length tc)) 29)) := fun wx hx => (hx.block _ (by omega)).trans hh0
  have H1 : Hid (∀ wx, Below W.heap.size W wx → wx.heap[w.heap.size + 1]? = some (.cells (tapeC s.t s.g0 s.g1 s.nx (.slice fb s.free.length fd) (.slice eb s.es.length ed) (.slice tb ls.length td)) 29)) := fun wx hx => (hx.block _ (by omega)).trans hh1
  have HS : Hid (∀ wx, Below W.heap.size W wx → Calls Tryz.prog 26 #[elderV s.t s.g0 s.g1 s.nx (.slice fa s.free.length fc) (.slice ea s.es.length ec), elderV s.t s.g0 s.g1 s.nx (.slice fb s.free.length fd) (.slice eb s.es.length ed)] wx fun e w' => e = .returned (.bool true) ∧ Below wx.heap.size wx w') := fun wx hx => by
    have hx2 : Below w.heap.size w wx := hbW.trans (hx.mono (by omega))
    exact sameElder_calls _ _ _ _ _ _ _ _ _ _ _ _ _ _ wx hfl hel (g1.below hx2) (g2.below hx2) (g3.below hx2) (g4.below hx2)
  have H8 := hid h8
  have hll : ((ls.length : Int) != (ls.length : Int)) = false := by simp
  obtain ⟨x0, x1, x2, x3, x4, x5, x6⟩ := tape_cells hh0
  obtain ⟨y0, y1, y2, y3, y4, y5, y6⟩ := tape_cells hh1
  clear h1 h2 hbW hsW hh0 hh1 h8 g1 g2 g3 g4
  go_enter Tryz.func15, Tryz.ntmps15
  go_wp2_with fail
  clear x0 x1 x2 x3 x4 x5 x6 y0 y1 y2 y3 y4 y5 y6
  go_loopw [5] (fun i wr => ∃ k : Nat, k ≤ ls.length ∧ i = .int .i64 k ∧ Hid (Below W.heap.size W wr)) (fun i _ => ls.length - (intOf i).toNat)
  case atStart => exact ⟨0, Nat.zero_le _, rfl, Below.refl _ _⟩
  case round =>
    obtain ⟨k, hk, rfl, HBk⟩ := hrel
    obtain ⟨x0, x1, x2, x3, x4, x5, x6⟩ := tape_cells (H0.out wr HBk.out)
    obtain ⟨y0, y1, y2, y3, y4, y5, y6⟩ := tape_cells (H1.out wr HBk.out)
    by_cases hlt : k < ls.length
    · have hltz : (k : Int) < (ls.length : Int) := by omega
      obtain ⟨b, o, la, lc, rfl, hca⟩ := tks_held HA.out hlt
      obtain ⟨b2, o2, la2, lc2, rfl, hcb⟩ := tks_held HB.out hlt
      have hl8 := H8.out k hlt
      have HCA := hid hca
      have HCB := hid hcb
      generalize ls.getD k [] = l at HCA HCB hl8
      have c1 := (HCA.out wr HBk.out).1
      have c2 := (HCB.out wr HBk.out).1
      have hl2 : ((l.length : Int) != (l.length : Int)) = false := by simp
      clear hca hcb
      go_wp2_with fail
      go_quiet (fail)
      go_wp2_with fail
      clear c1 c2 x0 x1 x2 x3 x4 x5 x6 y0 y1 y2 y3 y4 y5 y6
      go_loopw [6] (fun i wr => ∃ n : Nat, n ≤ l.length ∧ i = .int .i64 n ∧ Hid (Below W.heap.size W wr)) (fun i _ => l.length - (intOf i).toNat)
      case atStart => exact ⟨0, Nat.zero_le _, rfl, below_drewN HBk.out _⟩
      case round =>
        clear HBk
        obtain ⟨n, hn2, rfl, HBk⟩ := hrel
        obtain ⟨x0, x1, x2, x3, x4, x5, x6⟩ := tape_cells (H0.out wr HBk.out)
        obtain ⟨y0, y1, y2, y3, y4, y5, y6⟩ := tape_cells (H1.out wr HBk.out)
        obtain ⟨c1, r1⟩ := HCA.out wr HBk.out
        obtain ⟨c2, r2⟩ := HCB.out wr HBk.out
        by_cases hnl : n < l.length
        · have hnz : (n : Int) < (l.length : Int) := by omega
          obtain ⟨b3, o3, rfl, hm⟩ := r1.at hnl
          obtain ⟨b4, o4, rfl, hm'⟩ := r2.at hnl
          have l0 : wr.cell? ⟨b3, o3 + n * 7, none⟩ = some (.int .i64 (fld (rec l n) 0)) := hm 0 (by omega)
          have l1 := hm 1 (by omega)
          have l2 := hm 2 (by omega)
          have l3 := hm 3 (by omega)
          have l4 := hm 4 (by omega)
          have l5 := hm 5 (by omega)
          have l6 := hm 6 (by omega)
          have m0 : wr.cell? ⟨b4, o4 + n * 7, none⟩ = some (.int .i64 (fld (rec l n) 0)) := hm' 0 (by omega)
          have m1 := hm' 1 (by omega)
          have m2 := hm' 2 (by omega)
          have m3 := hm' 3 (by omega)
          have m4 := hm' 4 (by omega)
          have m5 := hm' 5 (by omega)
          have m6 := hm' 6 (by omega)
          generalize rec l n = u at l0 l1 l2 l3 l4 l5 l6 m0 m1 m2 m3 m4 m5 m6
          have heq := cmd_eq u
          clear hm hm' r1 r2
          go_wp2_with fail
          go_quiet (fail)
          go_wp2
          go_roundw
          case rel => exact ⟨n + 1, by omega, by go_num, below_drewN HBk.out _⟩
          case measure => simp [intOf]; omega
        · have hnz : ¬ (n : Int) < (l.length : Int) := by omega
          clear r1 r2
          go_wp2
          go_roundw
          case rel => exact ⟨k + 1, by omega, by go_num, HBk⟩
          case measure => simp [intOf]; omega
    · have hltz : ¬ (k : Int) < (ls.length : Int) := by omega
      have HSC := hid (HS.out wr HBk.out)
      go_wp2_with fail
      refine HSC.out.mono ?_
      rintro e w2 ⟨rfl, hb2⟩
      have HF : Hid (Below w.heap.size w w2) := HBW.out.trans ((HBk.out.trans (hb2.mono HBk.out.size)).mono (by rw [HSW.out]; omega))
      clear hb2 HSC
      go_wp2
      go_ret
      exact ⟨rfl, HF.out⟩
end Go.Proofs.YtcbalhicaipmlaaGreat
namespace Go.Proofs.YtcbalhicaipmlaaGreat
open Go.RowKit
theorem ord_eq (u : List Int) (w : World) : (Op.equalIn 10000 102 (ordV u) (ordV u)).run Tryz.prog w = .ok true w := by
  rw [run_equalIn_struct w 9999 102 _ _ (by kernel_rfl) (by kernel_rfl)]
  simp [go_sem]
theorem tksN_held {W : World} {ta : Option Addr} {ls : List (List (List Int))} (h : TksN W ta ls) {i : Nat} (hi : i < ls.length) : ∃ b o la lc, ta = some ⟨b, o, none⟩ ∧ ∀ wx, Below W.heap.size W wx → wx.cell? ⟨b, o + i, none⟩ = some (.slice la (ls.getD i []).length lc) ∧ Recs wx la 6 (ls.getD i []) := by
  obtain ⟨b, o, la, lc, h1, h2, h3⟩ := h.at hi
  exact ⟨b, o, la, lc, h1, fun wx hx => ⟨(hx.cell (p := ⟨b, o + i, none⟩) (World.block_lt_of_cell? W _ h2)).trans h2, h3.below hx⟩⟩
set_option maxRecDepth 100000 in
set_option maxHeartbeats 8000000 in
theorem sameReel_calls (s : St) (ls : List (List (List Int))) (ea ta eb tb : Option Addr) (ec tc ed td : Nat) (w : World) (hel : s.es.length ≤ 100000) (g3 : Recs w ea 11 s.es) (g4 : Recs w eb 11 s.es) (h8 : ∀ j, j < ls.length → (ls.getD j []).length ≤ 1000) (hn : ls.length ≤ 1000) (h1 : TksN w ta ls) (h2 : TksN w tb ls) :
    Calls Tryz.prog 21 #[reelV s.t s.g0 s.g1 s.nx (.slice ea s.es.length ec) (.slice ta ls.length tc), reelV s.t s.g0 s.g1 s.nx (.slice eb s.es.length ed) (.slice tb ls.length td)] w fun e w' => e = .returned (.bool true) ∧ Below w.heap.size w w' := by
  obtain ⟨W, hW⟩ : ∃ W, (w.alloc (.cells (reelC s.t s.g0 s.g1 s.nx (.slice ea s.es.length ec) (.slice ta ls.length tc)) 35)).alloc (.cells (reelC s.t s.g0 s.g1 s.nx (.slice eb s.es.length ed) (.slice tb ls.length td)) 35) = W := ⟨_, rfl⟩
  have hbW : Below w.heap.size w W := by rw [← hW]; exact ((Below.refl _ w).alloc (Nat.le_refl _) _).alloc (by simp [go_sem]) _
  have hsW : W.heap.size = w.heap.size + 2 := by rw [← hW]; simp [go_sem]
  have hh0 : W.heap[w.heap.size]? = some (.cells (reelC s.t s.g0 s.g1 s.nx (.slice ea s.es.length ec) (.slice ta ls.length tc)) 35) := by
    rw [← hW, heap_alloc_old _ _ (by simp [go_sem])]
    exact heap_alloc_new w _
  have hh1 : W.heap[w.heap.size + 1]? = some (.cells (reelC s.t s.g0 s.g1 s.nx (.slice eb s.es.length ed) (.slice tb ls.length td)) 35) := by
    have e : w.heap.size + 1 = (w.alloc (.cells (reelC s.t s.g0 s.g1 s.nx (.slice ea s.es.length ec) (.slice ta ls.length tc)) 35)).heap.size := by simp [go_sem]
    rw [← hW, e]
    exact heap_alloc_new _ _
  have HA := hid (h1.below hbW)
  have HB := hid (h2.below hbW)
  have HBW := hid hbW
  have HSW := hid hsW
  have H0 : Hid (∀ wx, Below W.heap.size W wx → wx.heap[w.heap.size]? = some (.cells (reelC s.t s.g0 s.g1 s.nx (.slice ea s.es.length ec) (.slice ta ls.length tc)) 35)) := fun wx hx => (hx.block _ (by omega)).trans hh0
  have H1 : Hid (∀ wx, Below W.heap.size W wx → wx.heap[w.heap.size + 1]? = some (.cells (reelC s.t s.g0 s.g1 s.nx (.slice eb s.es.length ed) (.slice tb ls.length td)) 35)) := fun wx hx => (hx.block _ (by omega)).trans hh1
  have HS : Hid (∀ wx, Below W.heap.size W wx → Calls Tryz.prog 27 #[newerV s.t s.g0 s.g1 s.nx (.slice ea s.es.length ec), newerV s.t s.g0 s.g1 s.nx (.slice eb s.es.length ed)] wx fun e w' => e = .returned (.bool true) ∧ Below wx.heap.size wx w') := fun wx hx => by
    have hx2 : Below w.heap.size w wx := hbW.trans (hx.mono (by omega))
    exact sameNewer_calls _ _ _ _ _ _ _ _ _ wx hel (g3.below hx2) (g4.below hx2)
  have H8 := hid h8
  have hll : ((ls.length : Int) != (ls.length : Int)) = false := by simp
  obtain ⟨x0, x1, x2, x3, x4, x5⟩ := reel_cellsS hh0
  obtain ⟨y0, y1, y2, y3, y4, y5⟩ := reel_cellsS hh1
  clear h1 h2 hbW hsW hh0 hh1 h8 g3 g4
  go_enter Tryz.func21, Tryz.ntmps21
  go_wp2_with fail
  clear x0 x1 x2 x3 x4 x5 y0 y1 y2 y3 y4 y5
  go_loopw [5] (fun i wr => ∃ k : Nat, k ≤ ls.length ∧ i = .int .i64 k ∧ Hid (Below W.heap.size W wr)) (fun i _ => ls.length - (intOf i).toNat)
  case atStart => exact ⟨0, Nat.zero_le _, rfl, Below.refl _ _⟩
  case round =>
    obtain ⟨k, hk, rfl, HBk⟩ := hrel
    obtain ⟨x0, x1, x2, x3, x4, x5⟩ := reel_cellsS (H0.out wr HBk.out)
    obtain ⟨y0, y1, y2, y3, y4, y5⟩ := reel_cellsS (H1.out wr HBk.out)
    by_cases hlt : k < ls.length
    · have hltz : (k : Int) < (ls.length : Int) := by omega
      obtain ⟨b, o, la, lc, rfl, hca⟩ := tksN_held HA.out hlt
      obtain ⟨b2, o2, la2, lc2, rfl, hcb⟩ := tksN_held HB.out hlt
      have hl8 := H8.out k hlt
      have HCA := hid hca
      have HCB := hid hcb
      generalize ls.getD k [] = l at HCA HCB hl8
      have c1 := (HCA.out wr HBk.out).1
      have c2 := (HCB.out wr HBk.out).1
      have hl2 : ((l.length : Int) != (l.length : Int)) = false := by simp
      clear hca hcb
      go_wp2_with fail
      go_quiet (fail)
      go_wp2_with fail
      clear c1 c2 x0 x1 x2 x3 x4 x5 y0 y1 y2 y3 y4 y5
      go_loopw [6] (fun i wr => ∃ n : Nat, n ≤ l.length ∧ i = .int .i64 n ∧ Hid (Below W.heap.size W wr)) (fun i _ => l.length - (intOf i).toNat)
      case atStart => exact ⟨0, Nat.zero_le _, rfl, below_drewN HBk.out _⟩
      case round =>
        clear HBk
        obtain ⟨n, hn2, rfl, HBk⟩ := hrel
        obtain ⟨x0, x1, x2, x3, x4, x5⟩ := reel_cellsS (H0.out wr HBk.out)
        obtain ⟨y0, y1, y2, y3, y4, y5⟩ := reel_cellsS (H1.out wr HBk.out)
        obtain ⟨c1, r1⟩ := HCA.out wr HBk.out
        obtain ⟨c2, r2⟩ := HCB.out wr HBk.out
        by_cases hnl : n < l.length
        · have hnz : (n : Int) < (l.length : Int) := by omega
          obtain ⟨b3, o3, rfl, hm⟩ := r1.at hnl
          obtain ⟨b4, o4, rfl, hm'⟩ := r2.at hnl
          have l0 : wr.cell? ⟨b3, o3 + n * 6, none⟩ = some (.int .i64 (fld (rec l n) 0)) := hm 0 (by omega)
          have l1 := hm 1 (by omega)
          have l2 := hm 2 (by omega)
          have l3 := hm 3 (by omega)
          have l4 := hm 4 (by omega)
          have l5 := hm 5 (by omega)
          have m0 : wr.cell? ⟨b4, o4 + n * 6, none⟩ = some (.int .i64 (fld (rec l n) 0)) := hm' 0 (by omega)
          have m1 := hm' 1 (by omega)
          have m2 := hm' 2 (by omega)
          have m3 := hm' 3 (by omega)
          have m4 := hm' 4 (by omega)
          have m5 := hm' 5 (by omega)
          generalize rec l n = u at l0 l1 l2 l3 l4 l5 m0 m1 m2 m3 m4 m5
          have heq := ord_eq u
          clear hm hm' r1 r2
          go_wp2_with fail
          go_quiet (fail)
          go_wp2
          go_roundw
          case rel => exact ⟨n + 1, by omega, by go_num, below_drewN HBk.out _⟩
          case measure => simp [intOf]; omega
        · have hnz : ¬ (n : Int) < (l.length : Int) := by omega
          clear r1 r2
          go_wp2
          go_roundw
          case rel => exact ⟨k + 1, by omega, by go_num, HBk⟩
          case measure => simp [intOf]; omega
    · have hltz : ¬ (k : Int) < (ls.length : Int) := by omega
      have HSC := hid (HS.out wr HBk.out)
      go_wp2_with fail
      refine HSC.out.mono ?_
      rintro e w2 ⟨rfl, hb2⟩
      have HF : Hid (Below w.heap.size w w2) := HBW.out.trans ((HBk.out.trans (hb2.mono HBk.out.size)).mono (by rw [HSW.out]; omega))
      clear hb2 HSC
      go_wp2
      go_ret
      exact ⟨rfl, HF.out⟩
end Go.Proofs.YtcbalhicaipmlaaGreat
