/- Package snap: a number is read, a count, the end. -/
import Derived.Test.YtcbalhicaipmlaaGreatRNwB
import Derived.Test.YtcbalhicaipmlaaGreatRSnA
import Derived.Test.YtcbalhicaipmlaaGreatRWire5
import Derived.Test.YtcbalhicaipmlaaGreatRNwK
namespace Go.Proofs.YtcbalhicaipmlaaGreat
open Go.RowKit
def RdAt (p : Nat) (r : Rd) (w : World) : Prop := ∃ x : List UInt8, w.heap[p]? = some (.cells #[.string ⟨x.toArray⟩, errV r.e] 147) ∧ (r.e = 0 → x = r.l) ∧ x.length ≤ 100000
theorem takeF_rest_le : ∀ (l : List UInt8) (i n : Nat), (Nu.takeF i n l).2.1.length ≤ l.length
  | [], _, _ => Nat.le_refl _
  | b :: t, i, n => by
    unfold Nu.takeF
    split
    · exact Nat.zero_le _
    · split
      · exact Nat.le_trans (takeF_rest_le t _ _) (Nat.le_succ _)
      · split
        · exact Nat.zero_le _
        · exact Nat.le_succ _
theorem take_rest_le (l : List UInt8) : (Nu.take l).2.1.length ≤ l.length := takeF_rest_le l 0 0
theorem errV_nil : errV 0 = .nilIface := rfl
theorem RdAt.lt {p : Nat} {r : Rd} {w : World} (h : RdAt p r w) : p < w.heap.size := by
  obtain ⟨x, h1, _⟩ := h
  exact (Array.getElem?_eq_some_iff.1 h1).1
theorem RdAt.below {p : Nat} {r : Rd} {w w' : World} (h : RdAt p r w) (hb : Below w.heap.size w w') : RdAt p r w' := by
  obtain ⟨x, h1, h2, h3⟩ := h
  exact ⟨x, (hb.block p (Array.getElem?_eq_some_iff.1 h1).1).trans h1, h2, h3⟩
theorem keep_trans {a b c : World} {ob : Option Nat} (h : Keep a ob b) (k : Keep b ob c) : Keep a ob c :=
  ⟨h.1.trans k.1, fun i hi hn => (k.2 i (Nat.lt_of_lt_of_le hi h.1.size) hn).trans (h.2 i hi hn)⟩
theorem rd_cells {w : World} {p : Nat} {a b : Value} (h : w.heap[p]? = some (.cells #[a, b] 147)) : w.cell? ⟨p, 0, none⟩ = some a ∧ w.cell? ⟨p, 1, none⟩ = some b ∧ (∀ j, w.frozen? ⟨p, j, none⟩ = false) :=
  ⟨cell_of_row w p 0 _ _ _ h, cell_of_row w p 1 _ _ _ h, fun j => frozen_of_row w p j _ _ h⟩
theorem rd_set {w : World} {p : Nat} {a b c d : Value} (h : w.heap[p]? = some (.cells #[a, b] 147)) : ((w.setCell ⟨p, 0, none⟩ c).setCell ⟨p, 1, none⟩ d).heap[p]? = some (.cells #[c, d] 147) := by
  have h1 : (w.setCell ⟨p, 0, none⟩ c).heap[p]? = some (.cells #[c, b] 147) := heap_setCell_same w p 0 _ _ c h
  exact heap_setCell_same _ p 1 _ _ d h1
set_option maxHeartbeats 4000000 in
set_option maxRecDepth 100000 in
theorem readNum_calls (p : Nat) (r : Rd) (w : World) (h : RdAt p r w) :
    Calls Tryz.prog 94 #[.pointer (some ⟨p, 0, none⟩)] w fun e w' => e = .returned (.int .i64 r.num.1) ∧ RdAt p r.num.2 w' ∧ Keep w (some p) w' := by
  obtain ⟨x, hh, hx, hl⟩ := h
  obtain ⟨c0, c1, cf⟩ := rd_cells hh
  by_cases h0 : r.e = 0
  case neg =>
    have HN : Hid (r.num = (0, ⟨[], r.e⟩)) := num_same h0
    have HE : Hid (RdAt p ⟨[], r.e⟩ w) := ⟨x, hh, fun e => absurd e h0, hl⟩
    rw [errV_pos h0] at c1
    clear hh hx
    go_enter Tryz.func94, Tryz.ntmps94
    go_wp2
    go_ret
    rw [HN.out]
    exact ⟨rfl, HE.out, Keep.refl _ _⟩
  have hxl := hx h0
  subst hxl
  rw [h0, errV_nil] at c1
  have HN := hid (rd_num_few h0)
  have HH := hid hh
  have hsh : (r.l.take 10).length ≤ 10 := by rw [List.length_take]; omega
  have hsl : (r.l.take 10).length = if r.l.length < 10 then r.l.length else 10 := by rw [List.length_take]; split <;> omega
  have HX : Hid ((⟨r.l.toArray⟩ : ByteArray).extract 0 (min (10 : Int) (r.l.length : Int)).toNat = ⟨(r.l.take 10).toArray⟩) := by
    show _ = _
    rw [cutx, List.drop_zero, Nat.sub_zero]
    by_cases h10 : r.l.length < 10
    · rw [List.take_of_length_le (by omega), List.take_of_length_le (by omega)]
    · rw [show (min (10 : Int) (r.l.length : Int)).toNat = 10 by omega]
  obtain ⟨T, hT⟩ : ∃ T, Nu.take (r.l.take 10) = T := ⟨_, rfl⟩
  have hTl : T.2.1.length ≤ (r.l.take 10).length := by rw [← hT]; exact take_rest_le _
  have HTK : Hid (∀ wx, Calls Tryz.prog 126 #[.string ⟨(r.l.take 10).toArray⟩] wx fun e w' => e = .returned (.tuple #[.int .i64 T.1, .string ⟨T.2.1.toArray⟩, errV T.2.2]) ∧ Below wx.heap.size wx w') := fun wx => by
    rw [← hT]
    exact take_calls (r.l.take 10) (by omega) wx
  rw [hT] at HN
  clear hT hh hx hsl
  have hsl : (r.l.take 10).length ≤ r.l.length := by rw [List.length_take]; omega
  generalize r.l.take 10 = sh at HN HX HTK hTl hsh hsl
  go_enter Tryz.func94, Tryz.ntmps94
  go_wp2_with fail
  go_quiet (fail)
  go_wp2_with fail
  rw [HX.out]
  refine (HTK.out _).mono ?_
  rintro e w2 ⟨rfl, hb2⟩
  have hb2' : Below w.heap.size w w2 := by
    have h1 : Below w.heap.size w (w.drewN nq) := below_drewN (Below.refl _ _) nq
    exact h1.trans (hb2.mono h1.size)
  have hh2 := (hb2'.block p (Array.getElem?_eq_some_iff.1 HH.out).1).trans HH.out
  obtain ⟨d0, d1, df⟩ := rd_cells hh2
  have HH2 := hid hh2
  have HB2 := hid hb2'
  have hsub : ((sh.length : Int) - (T.2.1.length : Int)) = ((sh.length - T.2.1.length : Nat) : Int) := by omega
  have hle : sh.length - T.2.1.length ≤ r.l.length := by omega
  have HCE := hid (cut_end r.l (sh.length - T.2.1.length))
  have HFIN : Hid (∀ ev, ev = errV T.2.2 → RdAt p r.num.2 ((w2.setCell ⟨p, 0, none⟩ (.string ((⟨r.l.toArray⟩ : ByteArray).extract (sh.length - T.2.1.length) r.l.length))).setCell ⟨p, 1, none⟩ ev) ∧ Keep w (some p) ((w2.setCell ⟨p, 0, none⟩ (.string ((⟨r.l.toArray⟩ : ByteArray).extract (sh.length - T.2.1.length) r.l.length))).setCell ⟨p, 1, none⟩ ev)) := by
    rintro ev rfl
    refine ⟨⟨r.l.drop (sh.length - T.2.1.length), ?_, ?_, ?_⟩, ?_⟩
    · rw [HCE.out, HN.out]
      exact rd_set HH2.out
    · intro he
      rw [HN.out] at he ⊢
      have he' : T.2.2 = 0 := he
      exact (if_pos he').symm
    · rw [List.length_drop]; omega
    · exact ((Keep.refl w (some p)).below HB2.out |>.set 0 _).set 1 _
  clear hb2 hb2' hh2 HTK c0 c1 cf
  by_cases hT0 : T.2.2 = 0
  · rw [hT0, errV_nil]
    have HF2 := hid (HFIN.out .nilIface (by rw [hT0]; rfl))
    clear HFIN hT0
    go_wp2
    go_ret
    exact ⟨by rw [HN.out]; rfl, HF2.out⟩
  · rw [errV_pos hT0]
    have HF2 := hid (HFIN.out _ (errV_pos hT0).symm)
    clear HFIN hT0
    go_wp2
    go_ret
    exact ⟨by rw [HN.out]; rfl, HF2.out⟩
set_option maxHeartbeats 4000000 in
set_option maxRecDepth 100000 in
theorem count_calls (p : Nat) (r : Rd) (m : Int) (w : World) (h : RdAt p r w) :
    Calls Tryz.prog 93 #[.pointer (some ⟨p, 0, none⟩), .int .i64 m] w fun e w' => e = .returned (.int .i64 (r.upTo m).1) ∧ RdAt p (r.upTo m).2 w' ∧ Keep w (some p) w' := by
  have HC := hid (readNum_calls p r w h)
  clear h
  by_cases hm : m < r.num.1
  · have HU : Hid (r.upTo m = (0, ⟨[], 2⟩)) := if_pos hm
    generalize r.num = R at HC hm
    go_enter Tryz.func93, Tryz.ntmps93
    go_wp2_with fail
    refine HC.out.mono ?_
    rintro e w2 ⟨rfl, hr2, hk2⟩
    obtain ⟨x, hh, hx, hl⟩ := hr2
    obtain ⟨d0, d1, df⟩ := rd_cells hh
    have HF : Hid (RdAt p ⟨[], 2⟩ (w2.setCell ⟨p, 1, none⟩ (.iface 86 (.int .i64 2))) ∧ Keep w (some p) (w2.setCell ⟨p, 1, none⟩ (.iface 86 (.int .i64 2)))) := ⟨⟨x, heap_setCell_same w2 p 1 _ _ _ hh, (fun e => by cases e), hl⟩, hk2.set 1 _⟩
    obtain ⟨ex, hex⟩ : ∃ ex, errV R.2.e = ex := ⟨_, rfl⟩
    rw [hex] at d1
    clear hh hx hk2 HC hex
    go_wp2
    go_ret
    rw [HU.out]
    exact ⟨rfl, HF.out⟩
  · have HU : Hid (r.upTo m = r.num) := if_neg hm
    generalize r.num = R at HC hm HU
    go_enter Tryz.func93, Tryz.ntmps93
    go_wp2_with fail
    refine HC.out.mono ?_
    rintro e w2 ⟨rfl, hr2, hk2⟩
    have HF : Hid (RdAt p R.2 w2 ∧ Keep w (some p) w2) := ⟨hr2, hk2⟩
    clear hr2 hk2 HC
    go_wp2
    go_ret
    rw [HU.out]
    exact ⟨rfl, HF.out⟩
set_option maxHeartbeats 4000000 in
set_option maxRecDepth 100000 in
theorem readEnd_calls (p : Nat) (r : Rd) (w : World) (h : RdAt p r w) :
    Calls Tryz.prog 80 #[.pointer (some ⟨p, 0, none⟩)] w fun e w' => e = .returned (errV r.over) ∧ w' = w := by
  obtain ⟨x, hh, hx, hl⟩ := h
  obtain ⟨c0, c1, cf⟩ := rd_cells hh
  by_cases h0 : r.e = 0
  · have hxl := hx h0
    subst hxl
    rw [h0, errV_nil] at c1
    by_cases hl0 : r.l = []
    · have HO : Hid (r.over = 0) := by
        show r.over = 0
        unfold Rd.over
        rw [if_neg (fun h => h.2 hl0)]
        exact h0
      rw [hl0] at c0
      clear hh hx hl h0 hl0
      go_enter Tryz.func80, Tryz.ntmps80
      go_wp2
      go_ret
      rw [HO.out]
      exact ⟨rfl, rfl⟩
    · have HO : Hid (r.over = 7) := if_pos ⟨h0, hl0⟩
      have hne : r.l.isEmpty = false := by
        cases h : r.l with
        | nil => exact absurd h hl0
        | cons a t => rfl
      clear hh hx hl h0 hl0
      go_enter Tryz.func80, Tryz.ntmps80
      go_wp2
      go_ret
      rw [HO.out]
      exact ⟨rfl, rfl⟩
  · have HO : Hid (r.over = r.e) := by
      show r.over = r.e
      unfold Rd.over
      rw [if_neg (fun h => h0 h.1)]
    rw [errV_pos h0] at c1
    have HE : Hid (errV r.e = .iface 86 (.int .i64 r.e)) := errV_pos h0
    clear hh hx hl h0
    go_enter Tryz.func80, Tryz.ntmps80
    go_wp2
    go_ret
    rw [HO.out, HE.out]
    exact ⟨rfl, rfl⟩
end Go.Proofs.YtcbalhicaipmlaaGreat
namespace Go.Proofs.YtcbalhicaipmlaaGreat
open Go.RowKit
theorem rd_off {p g j : Nat} {r : Rd} {w : World} {v : Value} (h : RdAt p r w) (hn : p ≠ g) : RdAt p r (w.setCell ⟨g, j, none⟩ v) := by
  obtain ⟨x, h1, h2, h3⟩ := h
  exact ⟨x, (heap_setCell_other w ⟨g, j, none⟩ p v hn).trans h1, h2, h3⟩
theorem keep_off {W w : World} {ob : Option Nat} {g j : Nat} {v : Value} (h : Keep W ob w) (hg : W.heap.size ≤ g) : Keep W ob (w.setCell ⟨g, j, none⟩ v) :=
  ⟨h.1.setCell (p := ⟨g, j, none⟩) (Nat.zero_le _) v, fun k hk hn => (heap_setCell_other w ⟨g, j, none⟩ k v (fun e => by have e' : k = g := e; omega)).trans (h.2 k hk hn)⟩
theorem keep_from {a b c : World} {ob : Option Nat} (h : Below a.heap.size a b) (k : Keep b ob c) : Keep a ob c :=
  ⟨(h.mono (Nat.zero_le _)).trans k.1, fun i hi hn => (k.2 i (Nat.lt_of_lt_of_le hi h.size) hn).trans (h.block i hi)⟩
theorem cells_at' {w : World} {g : Nat} {cs : Array Value} {t : TypeId} (h : w.heap[g]? = some (.cells cs t)) : (∀ j v, cs[j]? = some v → w.cell? ⟨g, j, none⟩ = some v) ∧ ∀ j, w.frozen? ⟨g, j, none⟩ = false :=
  ⟨fun j _ hv => (cell_of_row w g j _ _ _ h).trans hv, fun j => frozen_of_row w g j _ _ h⟩
set_option maxHeartbeats 4000000 in
set_option maxRecDepth 100000 in
theorem readEnt_calls (p : Nat) (r : Rd) (w : World) (h : RdAt p r w) :
    Calls Tryz.prog 95 #[.pointer (some ⟨p, 0, none⟩)] w fun e w' => e = .returned (entV (r.many 10).1) ∧ RdAt p (r.many 10).2 w' ∧ Keep w (some p) w' := by
  obtain ⟨W, hW⟩ : ∃ W, w.alloc (.cells #[.int .i64 0, .int .i64 0, .int .i64 0, .int .i64 0, .int .i64 0, .int .i64 0, .int .i64 0, .int .i64 0, .int .i64 0, .int .i64 0] 119) = W := ⟨_, rfl⟩
  have hbW : Below w.heap.size w W := by rw [← hW]; exact (Below.refl _ w).alloc (Nat.le_refl _) _
  have hsW : W.heap.size = w.heap.size + 1 := by rw [← hW]; simp [go_sem]
  have hh0 : W.heap[w.heap.size]? = some (.cells #[.int .i64 0, .int .i64 0, .int .i64 0, .int .i64 0, .int .i64 0, .int .i64 0, .int .i64 0, .int .i64 0, .int .i64 0, .int .i64 0] 119) := by rw [← hW]; exact heap_alloc_new _ _
  have hp := h.lt
  have HBW := hid hbW
  have HSW := hid hsW
  have H0 := hid hh0
  have h0 := h.below hbW
  clear h hbW hsW hh0
  obtain ⟨R1, hR1⟩ : ∃ R, (r).num = R := ⟨_, rfl⟩
  obtain ⟨R2, hR2⟩ : ∃ R, (R1.2).num = R := ⟨_, rfl⟩
  obtain ⟨R3, hR3⟩ : ∃ R, (R2.2).num = R := ⟨_, rfl⟩
  obtain ⟨R4, hR4⟩ : ∃ R, (R3.2).num = R := ⟨_, rfl⟩
  obtain ⟨R5, hR5⟩ : ∃ R, (R4.2).num = R := ⟨_, rfl⟩
  obtain ⟨R6, hR6⟩ : ∃ R, (R5.2).num = R := ⟨_, rfl⟩
  obtain ⟨R7, hR7⟩ : ∃ R, (R6.2).num = R := ⟨_, rfl⟩
  obtain ⟨R8, hR8⟩ : ∃ R, (R7.2).num = R := ⟨_, rfl⟩
  obtain ⟨R9, hR9⟩ : ∃ R, (R8.2).num = R := ⟨_, rfl⟩
  obtain ⟨R10, hR10⟩ : ∃ R, (R9.2).num = R := ⟨_, rfl⟩
  have HM : Hid (r.many 10 = ([R1.1, R2.1, R3.1, R4.1, R5.1, R6.1, R7.1, R8.1, R9.1, R10.1], R10.2)) := by
    show _ = _
    simp only [Rd.many, hR1, hR2, hR3, hR4, hR5, hR6, hR7, hR8, hR9, hR10, List.nil_append, List.cons_append]
  have HC1 := hid (readNum_calls p r W h0)
  rw [hR1] at HC1
  clear h0
  go_enter Tryz.func95, Tryz.ntmps95
  go_wp2_with fail
  refine HC1.out.mono ?_
  rintro e w1 ⟨rfl, h1, k1⟩
  have HK1 : Hid (Keep W (some p) w1) := k1
  clear k1 HC1 hW
  have HC2 := hid (readNum_calls p R1.2 w1 h1)
  rw [hR2] at HC2
  clear h1
  go_wp2_with fail
  refine HC2.out.mono ?_
  rintro e w2 ⟨rfl, h2, k2⟩
  have HK2 : Hid (Keep W (some p) w2) := keep_trans HK1.out k2
  clear k2 HC2 HK1
  have HC3 := hid (readNum_calls p R2.2 w2 h2)
  rw [hR3] at HC3
  clear h2
  go_wp2_with fail
  refine HC3.out.mono ?_
  rintro e w3 ⟨rfl, h3, k3⟩
  have HK3 : Hid (Keep W (some p) w3) := keep_trans HK2.out k3
  clear k3 HC3 HK2
  have HC4 := hid (readNum_calls p R3.2 w3 h3)
  rw [hR4] at HC4
  clear h3
  go_wp2_with fail
  refine HC4.out.mono ?_
  rintro e w4 ⟨rfl, h4, k4⟩
  have HK4 : Hid (Keep W (some p) w4) := keep_trans HK3.out k4
  clear k4 HC4 HK3
  have HC5 := hid (readNum_calls p R4.2 w4 h4)
  rw [hR5] at HC5
  clear h4
  go_wp2_with fail
  refine HC5.out.mono ?_
  rintro e w5 ⟨rfl, h5, k5⟩
  have HK5 : Hid (Keep W (some p) w5) := keep_trans HK4.out k5
  clear k5 HC5 HK4
  have HC6 := hid (readNum_calls p R5.2 w5 h5)
  rw [hR6] at HC6
  clear h5
  go_wp2_with fail
  refine HC6.out.mono ?_
  rintro e w6 ⟨rfl, h6, k6⟩
  have HK6 : Hid (Keep W (some p) w6) := keep_trans HK5.out k6
  clear k6 HC6 HK5
  have HC7 := hid (readNum_calls p R6.2 w6 h6)
  rw [hR7] at HC7
  clear h6
  go_wp2_with fail
  refine HC7.out.mono ?_
  rintro e w7 ⟨rfl, h7, k7⟩
  have HK7 : Hid (Keep W (some p) w7) := keep_trans HK6.out k7
  clear k7 HC7 HK6
  have HC8 := hid (readNum_calls p R7.2 w7 h7)
  rw [hR8] at HC8
  clear h7
  go_wp2_with fail
  refine HC8.out.mono ?_
  rintro e w8 ⟨rfl, h8, k8⟩
  have HK8 : Hid (Keep W (some p) w8) := keep_trans HK7.out k8
  clear k8 HC8 HK7
  have HC9 := hid (readNum_calls p R8.2 w8 h8)
  rw [hR9] at HC9
  clear h8
  go_wp2_with fail
  refine HC9.out.mono ?_
  rintro e w9 ⟨rfl, h9, k9⟩
  have HK9 : Hid (Keep W (some p) w9) := keep_trans HK8.out k9
  clear k9 HC9 HK8
  have HC10 := hid (readNum_calls p R9.2 w9 h9)
  rw [hR10] at HC10
  clear h9
  go_wp2_with fail
  refine HC10.out.mono ?_
  rintro e w10 ⟨rfl, h10, k10⟩
  have HK10 : Hid (Keep W (some p) w10) := keep_trans HK9.out k10
  clear k10 HC10 HK9
  have hh := (HK10.out.2 w.heap.size (by rw [HSW.out]; omega) (fun e => by cases e; omega)).trans H0.out
  have hq := cells_at' hh
  have q0 : w10.cell? ⟨w.heap.size, 0, none⟩ = some (.int .i64 0) := hq.1 0 _ rfl
  have q1 : w10.cell? ⟨w.heap.size, 1, none⟩ = some (.int .i64 0) := hq.1 1 _ rfl
  have q2 : w10.cell? ⟨w.heap.size, 2, none⟩ = some (.int .i64 0) := hq.1 2 _ rfl
  have q3 : w10.cell? ⟨w.heap.size, 3, none⟩ = some (.int .i64 0) := hq.1 3 _ rfl
  have q4 : w10.cell? ⟨w.heap.size, 4, none⟩ = some (.int .i64 0) := hq.1 4 _ rfl
  have q5 : w10.cell? ⟨w.heap.size, 5, none⟩ = some (.int .i64 0) := hq.1 5 _ rfl
  have q6 : w10.cell? ⟨w.heap.size, 6, none⟩ = some (.int .i64 0) := hq.1 6 _ rfl
  have q7 : w10.cell? ⟨w.heap.size, 7, none⟩ = some (.int .i64 0) := hq.1 7 _ rfl
  have q8 : w10.cell? ⟨w.heap.size, 8, none⟩ = some (.int .i64 0) := hq.1 8 _ rfl
  have q9 : w10.cell? ⟨w.heap.size, 9, none⟩ = some (.int .i64 0) := hq.1 9 _ rfl
  have qf := hq.2
  have HRD := hid h10
  have HKP : Hid (Keep w (some p) w10) := keep_from HBW.out HK10.out
  have hne : p ≠ w.heap.size := by omega
  clear h10 hh hq HK10 hR1 hR2 hR3 hR4 hR5 hR6 hR7 hR8 hR9 hR10
  go_wp2
  rw [HM.out]
  refine bodyPost_ret (v := entV [R1.1, R2.1, R3.1, R4.1, R5.1, R6.1, R7.1, R8.1, R9.1, R10.1]) (by simp [results, Tryz.results95, go_sem, q0, q1, q2, q3, q4, q5, q6, q7, q8, q9]; try exact ⟨rfl, rfl, rfl, rfl, rfl, rfl, rfl, rfl, rfl, rfl⟩) rfl ⟨rfl, ?_, ?_⟩
  · exact (rd_off (rd_off (rd_off (rd_off (rd_off (rd_off (rd_off (rd_off (rd_off (rd_off HRD.out hne) hne) hne) hne) hne) hne) hne) hne) hne) hne)
  · exact (keep_off (keep_off (keep_off (keep_off (keep_off (keep_off (keep_off (keep_off (keep_off (keep_off HKP.out (Nat.le_refl _)) (Nat.le_refl _)) (Nat.le_refl _)) (Nat.le_refl _)) (Nat.le_refl _)) (Nat.le_refl _)) (Nat.le_refl _)) (Nat.le_refl _)) (Nat.le_refl _)) (Nat.le_refl _))
end Go.Proofs.YtcbalhicaipmlaaGreat
