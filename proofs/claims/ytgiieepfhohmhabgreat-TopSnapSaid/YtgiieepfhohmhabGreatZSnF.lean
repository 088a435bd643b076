/- Package snap: a number is read, a count, the end. -/
import Derived.Test.YtgiieepfhohmhabGreatZNwK
import Derived.Test.YtgiieepfhohmhabGreatZSnA
import Derived.Test.YtgiieepfhohmhabGreatZWire5
namespace Go.Proofs.YtgiieepfhohmhabGreat
open Go.RowKit
def RdAt (p : Nat) (r : Rd) (w : World) : Prop := ∃ x : List UInt8, w.heap[p]? = some (.cells #[.string ⟨x.toArray⟩, errV r.e] 174) ∧ (r.e = 0 → x = r.l) ∧ x.length ≤ 10000
theorem takeF_rest_le : ∀ (l : List UInt8) (i n : Nat), (Nu.takeF i n l).2.1.length ≤ l.length
  | [], _, _ => Nat.le_refl _
  | b :: t, i, n => by
    unfold Nu.takeF
    split
    · exact Nat.zero_le _
    · split
      · exact Nat.le_trans (takeF_rest_le t _ _) (Nat.le_succ _)
      · split
        · exact Nat.zero_le _
        · exact Nat.le_succ _
theorem take_rest_le (l : List UInt8) : (Nu.take l).2.1.length ≤ l.length := takeF_rest_le l 0 0
theorem errV_nil : errV 0 = .nilIface := rfl
theorem RdAt.lt {p : Nat} {r : Rd} {w : World} (h : RdAt p r w) : p < w.heap.size := by
  obtain ⟨x, h1, _⟩ := h
  exact (Array.getElem?_eq_some_iff.1 h1).1
theorem RdAt.below {p : Nat} {r : Rd} {w w' : World} (h : RdAt p r w) (hb : Below w.heap.size w w') : RdAt p r w' := by
  obtain ⟨x, h1, h2, h3⟩ := h
  exact ⟨x, (hb.block p (Array.getElem?_eq_some_iff.1 h1).1).trans h1, h2, h3⟩
theorem keep_trans {a b c : World} {ob : Option Nat} (h : Keep a ob b) (k : Keep b ob c) : Keep a ob c :=
  ⟨h.1.trans k.1, fun i hi hn => (k.2 i (Nat.lt_of_lt_of_le hi h.1.size) hn).trans (h.2 i hi hn)⟩
theorem rd_cells {w : World} {p : Nat} {a b : Value} (h : w.heap[p]? = some (.cells #[a, b] 174)) : w.cell? ⟨p, 0, none⟩ = some a ∧ w.cell? ⟨p, 1, none⟩ = some b ∧ (∀ j, w.frozen? ⟨p, j, none⟩ = false) :=
  ⟨cell_of_row w p 0 _ _ _ h, cell_of_row w p 1 _ _ _ h, fun j => frozen_of_row w p j _ _ h⟩
theorem rd_set {w : World} {p : Nat} {a b c d : Value} (h : w.heap[p]? = some (.cells #[a, b] 174)) : ((w.setCell ⟨p, 0, none⟩ c).setCell ⟨p, 1, none⟩ d).heap[p]? = some (.cells #[c, d] 174) := by
  have h1 : (w.setCell ⟨p, 0, none⟩ c).heap[p]? = some (.cells #[c, b] 174) := heap_setCell_same w p 0 _ _ c h
  exact heap_setCell_same _ p 1 _ _ d h1
set_option maxHeartbeats 4000000 in
set_option maxRecDepth 100000 in
theorem readNum_calls (p : Nat) (r : Rd) (w : World) (h : RdAt p r w) :
    Calls Tryz.prog 106 #[.pointer (some ⟨p, 0, none⟩)] w fun e w' => e = .returned (.int .i64 r.num.1) ∧ RdAt p r.num.2 w' ∧ Keep w (some p) w' := by
  obtain ⟨x, hh, hx, hl⟩ := h
  obtain ⟨c0, c1, cf⟩ := rd_cells hh
  by_cases h0 : r.e = 0
  case neg =>
    have HN : Hid (r.num = (0, ⟨[], r.e⟩)) := num_same h0
    have HE : Hid (RdAt p ⟨[], r.e⟩ w) := ⟨x, hh, fun e => absurd e h0, hl⟩
    rw [errV_pos h0] at c1
    clear hh hx
    go_enter Tryz.func106, Tryz.ntmps106
    go_wp2
    go_ret
    rw [HN.out]
    exact ⟨rfl, HE.out, Keep.refl _ _⟩
  have hxl := hx h0
  subst hxl
  rw [h0, errV_nil] at c1
  have HN := hid (rd_num_few h0)
  have HH := hid hh
  have hsh : (r.l.take 10).length ≤ 10 := by rw [List.length_take]; omega
  have hsl : (r.l.take 10).length = if r.l.length < 10 then r.l.length else 10 := by rw [List.length_take]; split <;> omega
  have HX : Hid ((⟨r.l.toArray⟩ : ByteArray).extract 0 (min (10 : Int) (r.l.length : Int)).toNat = ⟨(r.l.take 10).toArray⟩) := by
    show _ = _
    rw [cutx, List.drop_zero, Nat.sub_zero]
    by_cases h10 : r.l.length < 10
    · rw [List.take_of_length_le (by omega), List.take_of_length_le (by omega)]
    · rw [show (min (10 : Int) (r.l.length : Int)).toNat = 10 by omega]
  obtain ⟨T, hT⟩ : ∃ T, Nu.take (r.l.take 10) = T := ⟨_, rfl⟩
  have hTl : T.2.1.length ≤ (r.l.take 10).length := by rw [← hT]; exact take_rest_le _
  have HTK : Hid (∀ wx, Calls Tryz.prog 161 #[.string ⟨(r.l.take 10).toArray⟩] wx fun e w' => e = .returned (.tuple #[.int .i64 T.1, .string ⟨T.2.1.toArray⟩, errV T.2.2]) ∧ Below wx.heap.size wx w') := fun wx => by
    rw [← hT]
    exact take_calls (r.l.take 10) (by omega) wx
  rw [hT] at HN
  clear hT hh hx hsl
  have hsl : (r.l.take 10).length ≤ r.l.length := by rw [List.length_take]; omega
  generalize r.l.take 10 = sh at HN HX HTK hTl hsh hsl
  go_enter Tryz.func106, Tryz.ntmps106
  go_wp2_with fail
  go_quiet (fail)
  go_wp2_with fail
  rw [HX.out]
  refine (HTK.out _).mono ?_
  rintro e w2 ⟨rfl, hb2⟩
  have hb2' : Below w.heap.size w w2 := by
    have h1 : Below w.heap.size w (w.drewN nq) := below_drewN (Below.refl _ _) nq
    exact h1.trans (hb2.mono h1.size)
  have hh2 := (hb2'.block p (Array.getElem?_eq_some_iff.1 HH.out).1).trans HH.out
  obtain ⟨d0, d1, df⟩ := rd_cells hh2
  have HH2 := hid hh2
  have HB2 := hid hb2'
  have hsub : ((sh.length : Int) - (T.2.1.length : Int)) = ((sh.length - T.2.1.length : Nat) : Int) := by omega
  have hle : sh.length - T.2.1.length ≤ r.l.length := by omega
  have HCE := hid (cut_end r.l (sh.length - T.2.1.length))
  have HFIN : Hid (∀ ev, ev = errV T.2.2 → RdAt p r.num.2 ((w2.setCell ⟨p, 0, none⟩ (.string ((⟨r.l.toArray⟩ : ByteArray).extract (sh.length - T.2.1.length) r.l.length))).setCell ⟨p, 1, none⟩ ev) ∧ Keep w (some p) ((w2.setCell ⟨p, 0, none⟩ (.string ((⟨r.l.toArray⟩ : ByteArray).extract (sh.length - T.2.1.length) r.l.length))).setCell ⟨p, 1, none⟩ ev)) := by
    rintro ev rfl
    refine ⟨⟨r.l.drop (sh.length - T.2.1.length), ?_, ?_, ?_⟩, ?_⟩
    · rw [HCE.out, HN.out]
      exact rd_set HH2.out
    · intro he
      rw [HN.out] at he ⊢
      have he' : T.2.2 = 0 := he
      exact (if_pos he').symm
    · rw [List.length_drop]; omega
    · exact ((Keep.refl w (some p)).below HB2.out |>.set 0 _).set 1 _
  clear hb2 hb2' hh2 HTK c0 c1 cf
  by_cases hT0 : T.2.2 = 0
  · rw [hT0, errV_nil]
    have HF2 := hid (HFIN.out .nilIface (by rw [hT0]; rfl))
    clear HFIN hT0
    go_wp2
    go_ret
    exact ⟨by rw [HN.out]; rfl, HF2.out⟩
  · rw [errV_pos hT0]
    have HF2 := hid (HFIN.out _ (errV_pos hT0).symm)
    clear HFIN hT0
    go_wp2
    go_ret
    exact ⟨by rw [HN.out]; rfl, HF2.out⟩
set_option maxHeartbeats 4000000 in
set_option maxRecDepth 100000 in
theorem count_calls (p : Nat) (r : Rd) (m : Int) (w : World) (h : RdAt p r w) :
    Calls Tryz.prog 105 #[.pointer (some ⟨p, 0, none⟩), .int .i64 m] w fun e w' => e = .returned (.int .i64 (r.upTo m).1) ∧ RdAt p (r.upTo m).2 w' ∧ Keep w (some p) w' := by
  have HC := hid (readNum_calls p r w h)
  clear h
  by_cases hm : m < r.num.1
  · have HU : Hid (r.upTo m = (0, ⟨[], 2⟩)) := if_pos hm
    generalize r.num = R at HC hm
    go_enter Tryz.func105, Tryz.ntmps105
    go_wp2_with fail
    refine HC.out.mono ?_
    rintro e w2 ⟨rfl, hr2, hk2⟩
    obtain ⟨x, hh, hx, hl⟩ := hr2
    obtain ⟨d0, d1, df⟩ := rd_cells hh
    have HF : Hid (RdAt p ⟨[], 2⟩ (w2.setCell ⟨p, 1, none⟩ (.iface 112 (.int .i64 2))) ∧ Keep w (some p) (w2.setCell ⟨p, 1, none⟩ (.iface 112 (.int .i64 2)))) := ⟨⟨x, heap_setCell_same w2 p 1 _ _ _ hh, (fun e => by cases e), hl⟩, hk2.set 1 _⟩
    obtain ⟨ex, hex⟩ : ∃ ex, errV R.2.e = ex := ⟨_, rfl⟩
    rw [hex] at d1
    clear hh hx hk2 HC hex
    go_wp2
    go_ret
    rw [HU.out]
    exact ⟨rfl, HF.out⟩
  · have HU : Hid (r.upTo m = r.num) := if_neg hm
    generalize r.num = R at HC hm HU
    go_enter Tryz.func105, Tryz.ntmps105
    go_wp2_with fail
    refine HC.out.mono ?_
    rintro e w2 ⟨rfl, hr2, hk2⟩
    have HF : Hid (RdAt p R.2 w2 ∧ Keep w (some p) w2) := ⟨hr2, hk2⟩
    clear hr2 hk2 HC
    go_wp2
    go_ret
    rw [HU.out]
    exact ⟨rfl, HF.out⟩
set_option maxHeartbeats 4000000 in
set_option maxRecDepth 100000 in
theorem readEnd_calls (p : Nat) (r : Rd) (w : World) (h : RdAt p r w) :
    Calls Tryz.prog 103 #[.pointer (some ⟨p, 0, none⟩)] w fun e w' => e = .returned (errV r.over) ∧ w' = w := by
  obtain ⟨x, hh, hx, hl⟩ := h
  obtain ⟨c0, c1, cf⟩ := rd_cells hh
  by_cases h0 : r.e = 0
  · have hxl := hx h0
    subst hxl
    rw [h0, errV_nil] at c1
    by_cases hl0 : r.l = []
    · have HO : Hid (r.over = 0) := by
        show r.over = 0
        unfold Rd.over
        rw [if_neg (fun h => h.2 hl0)]
        exact h0
      rw [hl0] at c0
      clear hh hx hl h0 hl0
      go_enter Tryz.func103, Tryz.ntmps103
      go_wp2
      go_ret
      rw [HO.out]
      exact ⟨rfl, rfl⟩
    · have HO : Hid (r.over = 7) := if_pos ⟨h0, hl0⟩
      have hne : r.l.isEmpty = false := by
        cases h : r.l with
        | nil => exact absurd h hl0
        | cons a t => rfl
      clear hh hx hl h0 hl0
      go_enter Tryz.func103, Tryz.ntmps103
      go_wp2
      go_ret
      rw [HO.out]
      exact ⟨rfl, rfl⟩
  · have HO : Hid (r.over = r.e) := by
      show r.over = r.e
      unfold Rd.over
      rw [if_neg (fun h => h0 h.1)]
    rw [errV_pos h0] at c1
    have HE : Hid (errV r.e = .iface 112 (.int .i64 r.e)) := errV_pos h0
    clear hh hx hl h0
    go_enter Tryz.func103, Tryz.ntmps103
    go_wp2
    go_ret
    rw [HO.out, HE.out]
    exact ⟨rfl, rfl⟩
end Go.Proofs.YtgiieepfhohmhabGreat
