/- SnapTapes: the walk. -/
import Derived.Test.YtcbalhicaipmlaaGreatRElA
import Derived.Test.YtcbalhicaipmlaaGreatRRefQ
import Derived.Test.YtcbalhicaipmlaaGreatRWire3
import Derived.Test.YtcbalhicaipmlaaGreatRSnJ
import Derived.Test.YtcbalhicaipmlaaGreatREsRA
import Derived.Test.YtcbalhicaipmlaaGreatRSnB
import Derived.Test.YtcbalhicaipmlaaGreatRSnV
import Derived.Test.YtcbalhicaipmlaaGreatRRlA
import Derived.Test.YtcbalhicaipmlaaGreatRRlC
import Derived.Test.YtcbalhicaipmlaaGreatRSnQ
import Derived.Test.YtcbalhicaipmlaaGreatRTfT
import Derived.Test.YtcbalhicaipmlaaGreatRSnF
import Derived.Test.YtcbalhicaipmlaaGreatRSnL
namespace Go.Proofs.YtcbalhicaipmlaaGreat
open Go.RowKit
theorem ckT_le {k c : Nat} {t : Int} {ls : List (List (List Int))} (h : c ≤ 3) : ckT k c t ls ≤ 3 := by
  unfold ckT
  split
  · split
    · omega
    · split <;> omega
  · exact h
end Go.Proofs.YtcbalhicaipmlaaGreat
namespace Go.Proofs.YtcbalhicaipmlaaGreat
open Go.RowKit
def NmAt (p : Nat) (r : Rd) (w : World) : Prop := ∃ x : List UInt8, w.heap[p]? = some (.cells #[.string ⟨x.toArray⟩, .int .i64 r.e] 169) ∧ (r.e = 0 → x = r.l) ∧ x.length ≤ 10000
theorem NmAt.lt {p : Nat} {r : Rd} {w : World} (h : NmAt p r w) : p < w.heap.size := by
  obtain ⟨x, h1, _⟩ := h
  exact (Array.getElem?_eq_some_iff.1 h1).1
theorem NmAt.below {p : Nat} {r : Rd} {w w' : World} (h : NmAt p r w) (hb : Below w.heap.size w w') : NmAt p r w' := by
  obtain ⟨x, h1, h2, h3⟩ := h
  exact ⟨x, (hb.block p (Array.getElem?_eq_some_iff.1 h1).1).trans h1, h2, h3⟩
theorem NmAt.blk {p : Nat} {r : Rd} {w w' : World} (h : NmAt p r w) (hb : w'.heap[p]? = w.heap[p]?) : NmAt p r w' := by
  obtain ⟨x, h1, h2, h3⟩ := h
  exact ⟨x, hb.trans h1, h2, h3⟩
theorem nm_cells {w : World} {p : Nat} {a b : Value} (h : w.heap[p]? = some (.cells #[a, b] 169)) : w.cell? ⟨p, 0, none⟩ = some a ∧ w.cell? ⟨p, 1, none⟩ = some b ∧ (∀ j, w.frozen? ⟨p, j, none⟩ = false) :=
  ⟨cell_of_row w p 0 _ _ _ h, cell_of_row w p 1 _ _ _ h, fun j => frozen_of_row w p j _ _ h⟩
theorem openB_le (b : UInt8) (l : List UInt8) : (openB b l).length ≤ l.length := by
  unfold openB midL
  split
  · rw [List.length_take, List.length_drop]; omega
  · exact Nat.zero_le _
set_option maxHeartbeats 4000000 in
set_option maxRecDepth 100000 in
theorem next_calls (p : Nat) (r : Rd) (w : World) (h : NmAt p r w) :
    Calls Tryz.prog 63 #[.pointer (some ⟨p, 0, none⟩)] w fun e w' => e = .returned (.int .i64 r.num.1) ∧ NmAt p r.num.2 w' ∧ Keep w (some p) w' := by
  obtain ⟨x, hh, hx, hl⟩ := h
  obtain ⟨c0, c1, cf⟩ := nm_cells hh
  by_cases h0 : r.e = 0
  case neg =>
    have HN : Hid (r.num = (0, ⟨[], r.e⟩)) := num_same h0
    have HE : Hid (NmAt p ⟨[], r.e⟩ w) := ⟨x, hh, fun e => absurd e h0, hl⟩
    have hp : 0 < r.e := by omega
    have hpz : (0 : Int) < (r.e : Int) := by omega
    clear hh hx h0
    go_enter Tryz.func63, Tryz.ntmps63
    go_wp2
    go_ret
    rw [HN.out]
    exact ⟨rfl, HE.out, Keep.refl _ _⟩
  have hxl := hx h0
  subst hxl
  rw [h0] at c1
  have HH := hid hh
  obtain ⟨T, hT⟩ : ∃ T, Nu.take r.l = T := ⟨_, rfl⟩
  have hTl : T.2.1.length ≤ 10000 := by rw [← hT]; exact Nat.le_trans (take_rest_le _) hl
  have HTK : Hid (Calls Tryz.prog 98 #[.string ⟨r.l.toArray⟩] w fun e w' => e = .returned (.tuple #[.int .i64 T.1, .string ⟨T.2.1.toArray⟩, .int .i64 T.2.2]) ∧ Below w.heap.size w w') := by
    rw [← hT]
    exact refTake_calls r.l (by omega) w
  have HN : Hid (r.num = if T.2.2 = 0 then ((T.1 : Int), ⟨T.2.1, 0⟩) else (0, ⟨[], T.2.2⟩)) := by
    show _ = _
    unfold Rd.num
    rw [if_neg (by omega), hT]
  clear hT hh hx
  by_cases hT0 : T.2.2 = 0
  · rw [if_pos hT0] at HN
    rw [hT0] at HTK
    clear hT0
    go_enter Tryz.func63, Tryz.ntmps63
    go_wp2_with fail
    refine HTK.out.mono ?_
    rintro e w2 ⟨rfl, hb2⟩
    have hh2 := (hb2.block p (Array.getElem?_eq_some_iff.1 HH.out).1).trans HH.out
    obtain ⟨d0, d1, df⟩ := nm_cells hh2
    have HF : Hid (NmAt p ⟨T.2.1, 0⟩ (w2.setCell ⟨p, 0, none⟩ (.string ⟨T.2.1.toArray⟩)) ∧ Keep w (some p) (w2.setCell ⟨p, 0, none⟩ (.string ⟨T.2.1.toArray⟩))) := by
      refine ⟨⟨T.2.1, ?_, fun _ => rfl, hTl⟩, ((Keep.refl w (some p)).below hb2).set 0 _⟩
      rw [h0] at hh2
      exact heap_setCell_same w2 p 0 _ _ _ hh2
    clear hh2 hb2 HTK c0 c1 cf
    go_wp2
    go_ret
    rw [HN.out]
    exact ⟨rfl, HF.out⟩
  · rw [if_neg hT0] at HN
    have hp : 0 < T.2.2 := by omega
    have hpz : (0 : Int) < (T.2.2 : Int) := by omega
    clear hT0
    go_enter Tryz.func63, Tryz.ntmps63
    go_wp2_with fail
    refine HTK.out.mono ?_
    rintro e w2 ⟨rfl, hb2⟩
    have hh2 := (hb2.block p (Array.getElem?_eq_some_iff.1 HH.out).1).trans HH.out
    obtain ⟨d0, d1, df⟩ := nm_cells hh2
    have HF : Hid (NmAt p ⟨[], T.2.2⟩ (w2.setCell ⟨p, 1, none⟩ (.int .i64 T.2.2)) ∧ Keep w (some p) (w2.setCell ⟨p, 1, none⟩ (.int .i64 T.2.2))) := by
      refine ⟨⟨r.l, ?_, fun e => absurd e (by show T.2.2 ≠ 0; omega), hl⟩, ((Keep.refl w (some p)).below hb2).set 1 _⟩
      exact heap_setCell_same w2 p 1 _ _ _ hh2
    clear hh2 hb2 HTK c0 c1 cf
    go_wp2
    go_ret
    rw [HN.out]
    exact ⟨rfl, HF.out⟩
set_option maxHeartbeats 4000000 in
set_option maxRecDepth 100000 in
theorem upTo_calls (p : Nat) (r : Rd) (m : Int) (hm0 : 0 ≤ m) (w : World) (h : NmAt p r w) :
    Calls Tryz.prog 62 #[.pointer (some ⟨p, 0, none⟩), .int .i64 m] w fun e w' => e = .returned (.int .i64 (r.upTo m).1) ∧ NmAt p (r.upTo m).2 w' ∧ Keep w (some p) w' := by
  have HC := hid (next_calls p r w h)
  have hz : r.num.2.e ≠ 0 → r.num.1 = 0 := by
    intro hne
    unfold Rd.num at hne ⊢
    split
    · rfl
    · split
      next h1 h2 => rw [if_neg h1, if_pos h2] at hne; exact absurd rfl hne
      · rfl
  clear h
  by_cases hm : m < r.num.1
  · have HU : Hid (r.upTo m = (0, ⟨[], 2⟩)) := if_pos hm
    have he : r.num.2.e = 0 := by
      by_cases h : r.num.2.e = 0
      · exact h
      · have := hz h; omega
    generalize r.num = R at HC hm he
    clear hz
    go_enter Tryz.func62, Tryz.ntmps62
    go_wp2_with fail
    refine HC.out.mono ?_
    rintro e w2 ⟨rfl, hr2, hk2⟩
    obtain ⟨x, hh, hx, hl⟩ := hr2
    obtain ⟨d0, d1, df⟩ := nm_cells hh
    have HF : Hid (NmAt p ⟨[], 2⟩ (w2.setCell ⟨p, 1, none⟩ (.int .i64 2)) ∧ Keep w (some p) (w2.setCell ⟨p, 1, none⟩ (.int .i64 2))) := ⟨⟨x, heap_setCell_same w2 p 1 _ _ _ hh, (fun e => by cases e), hl⟩, hk2.set 1 _⟩
    rw [he] at d1
    clear hh hx hk2 HC he
    go_wp2
    go_ret
    rw [HU.out]
    exact ⟨rfl, HF.out⟩
  · have HU : Hid (r.upTo m = r.num) := if_neg hm
    generalize r.num = R at HC hm HU hz
    go_enter Tryz.func62, Tryz.ntmps62
    go_wp2_with fail
    refine HC.out.mono ?_
    rintro e w2 ⟨rfl, hr2, hk2⟩
    have HF : Hid (NmAt p R.2 w2 ∧ Keep w (some p) w2) := ⟨hr2, hk2⟩
    obtain ⟨x, hh, hx, hl⟩ := hr2
    obtain ⟨d0, d1, df⟩ := nm_cells hh
    clear hh hx hl hk2 HC
    by_cases he : R.2.e = 0
    · rw [he] at d1
      clear hz he
      go_wp2
      go_ret
      rw [HU.out]
      exact ⟨rfl, HF.out⟩
    · have h1 := hid (hz he)
      have hne : ((R.2.e : Int) == 0) = false := by rw [beq_eq_false_iff_ne]; omega
      have hp : 0 < R.2.e := by omega
      have hpz : (0 : Int) < (R.2.e : Int) := by omega
      clear hz he
      go_wp2
      go_ret
      rw [HU.out, h1.out]
      exact ⟨rfl, HF.out⟩
set_option maxHeartbeats 4000000 in
set_option maxRecDepth 100000 in
theorem over_calls (p : Nat) (r : Rd) (w : World) (h : NmAt p r w) :
    Calls Tryz.prog 57 #[.pointer (some ⟨p, 0, none⟩)] w fun e w' => e = .returned (.int .i64 r.over) ∧ w' = w := by
  obtain ⟨x, hh, hx, hl⟩ := h
  obtain ⟨c0, c1, cf⟩ := nm_cells hh
  by_cases h0 : r.e = 0
  · have hxl := hx h0
    subst hxl
    rw [h0] at c1
    by_cases hl0 : r.l = []
    · have HO : Hid (r.over = 0) := by
        show r.over = 0
        unfold Rd.over
        rw [if_neg (fun h => h.2 hl0)]
        exact h0
      rw [hl0] at c0
      clear hh hx hl h0 hl0
      go_enter Tryz.func57, Tryz.ntmps57
      go_wp2
      go_ret
      rw [HO.out]
      exact ⟨rfl, rfl⟩
    · have HO : Hid (r.over = 7) := if_pos ⟨h0, hl0⟩
      have hne : r.l.isEmpty = false := by
        cases h : r.l with
        | nil => exact absurd h hl0
        | cons a t => rfl
      clear hh hx hl h0 hl0
      go_enter Tryz.func57, Tryz.ntmps57
      go_wp2
      go_ret
      rw [HO.out]
      exact ⟨rfl, rfl⟩
  · have HO : Hid (r.over = r.e) := by
      show r.over = r.e
      unfold Rd.over
      rw [if_neg (fun h => h0 h.1)]
    have hne : ((r.e : Int) == 0) = false := by rw [beq_eq_false_iff_ne]; omega
    clear hh hx hl h0
    go_enter Tryz.func57, Tryz.ntmps57
    go_wp2
    go_ret
    rw [HO.out]
    exact ⟨rfl, rfl⟩
set_option maxHeartbeats 4000000 in
set_option maxRecDepth 100000 in
theorem begun_calls (b : UInt8) (l : List UInt8) (hl : l.length ≤ 10000) (w : World) :
    Calls Tryz.prog 55 #[.int .u8 (b.toNat : Int), .string ⟨l.toArray⟩] w fun e w' => ∃ p, e = .returned (.pointer (some ⟨p, 0, none⟩)) ∧ w.heap.size ≤ p ∧ NmAt p ⟨openB b l, openE b l⟩ w' ∧ Below w.heap.size w w' := by
  have HO := hid (opened_calls b l (by omega) w)
  have hob := openB_le b l
  have hoe : 0 ≤ openE b l := Nat.zero_le _
  generalize openB b l = body at HO hob
  generalize openE b l = oe at HO hoe
  go_enter Tryz.func55, Tryz.ntmps55
  go_wp2_with fail
  refine HO.out.mono ?_
  rintro e w2 ⟨rfl, hb2⟩
  have HB := hid hb2
  clear hb2 HO
  go_wp2
  go_ret
  refine ⟨_, rfl, HB.out.size, ⟨body, heap_alloc_new _ _, fun _ => rfl, by omega⟩, HB.out.alloc HB.out.size _⟩
end Go.Proofs.YtcbalhicaipmlaaGreat
namespace Go.Proofs.YtcbalhicaipmlaaGreat
open Go.RowKit
theorem nm_grown {p : Nat} {r : Rd} {w w' : World} {ob : Option Nat} (h : NmAt p r w) (hg : w.grownBy w' ob) (hn : ob ≠ some p) : NmAt p r w' := h.blk (hg.block p h.lt (fun e => hn e.symm))
theorem nm_off {p g j : Nat} {r : Rd} {w : World} {v : Value} (h : NmAt p r w) (hn : p ≠ g) : NmAt p r (w.setCell ⟨g, j, none⟩ v) := h.blk (heap_setCell_other w ⟨g, j, none⟩ p v hn)
structure MidM (w : World) (p : Nat) (T : TypeId) (zs cs : Array Value) (r : Rd) (wr : World) : Prop where
  rd : NmAt p r wr
  bx : wr.heap[w.heap.size + 1]? = some (.cells cs T)
  re : wr.heap[w.heap.size]? = some (.cells zs T)
  kp : Keep w (some p) wr
theorem MidM.call {w : World} {p : Nat} {T : TypeId} {zs cs : Array Value} {r r' : Rd} {wr wx : World} (h : MidM w p T zs cs r wr) (hr : NmAt p r' wx) (hk : Keep wr (some p) wx) (hp : p < w.heap.size) : MidM w p T zs cs r' wx :=
  ⟨hr, (hk.2 _ (Array.getElem?_eq_some_iff.1 h.bx).1 (fun e => by cases e; omega)).trans h.bx, (hk.2 _ (Array.getElem?_eq_some_iff.1 h.re).1 (fun e => by cases e; omega)).trans h.re, keep_trans h.kp hk⟩
theorem MidM.below {w : World} {p : Nat} {T : TypeId} {zs cs : Array Value} {r : Rd} {wr wx : World} (h : MidM w p T zs cs r wr) (hb : Below wr.heap.size wr wx) : MidM w p T zs cs r wx :=
  ⟨h.rd.below hb, (hb.block _ (Array.getElem?_eq_some_iff.1 h.bx).1).trans h.bx, (hb.block _ (Array.getElem?_eq_some_iff.1 h.re).1).trans h.re, h.kp.below hb⟩
theorem MidM.grown {w : World} {p : Nat} {T : TypeId} {zs cs : Array Value} {r : Rd} {wr wx : World} {ob : Option Nat} (h : MidM w p T zs cs r wr) (hg : wr.grownBy wx ob) (hn : ∀ k, ob = some k → w.heap.size + 2 ≤ k) (hp : p < w.heap.size) : MidM w p T zs cs r wx :=
  ⟨nm_grown h.rd hg (fun e => by have := hn p e; omega), (hg.block _ (Array.getElem?_eq_some_iff.1 h.bx).1 (fun e => by have := hn _ e.symm; omega)).trans h.bx, (hg.block _ (Array.getElem?_eq_some_iff.1 h.re).1 (fun e => by have := hn _ e.symm; omega)).trans h.re, keep_grown h.kp hg (fun k e => by have := hn k e; omega)⟩
theorem MidM.set {w : World} {p : Nat} {T : TypeId} {zs cs cs' : Array Value} {r : Rd} {wr : World} {j : Nat} {v : Value} (h : MidM w p T zs cs r wr) (hp : p < w.heap.size) (hc : (wr.setCell ⟨w.heap.size + 1, j, none⟩ v).heap[w.heap.size + 1]? = some (.cells cs' T)) : MidM w p T zs cs' r (wr.setCell ⟨w.heap.size + 1, j, none⟩ v) :=
  ⟨nm_off h.rd (by omega), hc, (heap_setCell_other wr ⟨w.heap.size + 1, j, none⟩ w.heap.size v (fun e => by have e' : w.heap.size = w.heap.size + 1 := e; omega)).trans h.re, keep_off h.kp (by omega)⟩
theorem MidM.head {w : World} {p : Nat} {T : TypeId} {zs cs cs' : Array Value} {r : Rd} {wr : World} {c0 c1 c2 c3 : Value} (h : MidM w p T zs cs r wr) (hp : p < w.heap.size) (hc : ((((wr.setCell ⟨w.heap.size + 1, 0, none⟩ c0).setCell ⟨w.heap.size + 1, 1, none⟩ c1).setCell ⟨w.heap.size + 1, 2, none⟩ c2).setCell ⟨w.heap.size + 1, 3, none⟩ c3).heap[w.heap.size + 1]? = some (.cells cs' T)) : MidM w p T zs cs' r ((((wr.setCell ⟨w.heap.size + 1, 0, none⟩ c0).setCell ⟨w.heap.size + 1, 1, none⟩ c1).setCell ⟨w.heap.size + 1, 2, none⟩ c2).setCell ⟨w.heap.size + 1, 3, none⟩ c3) := by
  obtain ⟨x, h1, h2, h3⟩ := h.rd
  exact ⟨⟨x, (head_off (by omega)).trans h1, h2, h3⟩, hc, (head_off (by omega)).trans h.re, keep_off (keep_off (keep_off (keep_off h.kp (by omega)) (by omega)) (by omega)) (by omega)⟩
theorem MidM.off {w : World} {p : Nat} {T : TypeId} {zs cs : Array Value} {r : Rd} {wr : World} {g j : Nat} {v : Value} (h : MidM w p T zs cs r wr) (hp : p < w.heap.size) (hg : w.heap.size + 2 ≤ g) : MidM w p T zs cs r (wr.setCell ⟨g, j, none⟩ v) :=
  ⟨nm_off h.rd (by omega), (heap_setCell_other wr ⟨g, j, none⟩ _ v (fun e => by have e' : w.heap.size + 1 = g := e; omega)).trans h.bx, (heap_setCell_other wr ⟨g, j, none⟩ _ v (fun e => by have e' : w.heap.size = g := e; omega)).trans h.re, keep_off h.kp (by omega)⟩
def LAt (g k : Nat) (T : TypeId) (zs : List Int) (w : World) : Prop := ∃ cs : Array Value, w.heap[g]? = some (.cells cs T) ∧ cs.size = k ∧ ∀ i, i < k → cs[i]? = some (.int .i64 (fld zs i))
theorem LAt.lt {g k : Nat} {T : TypeId} {zs : List Int} {w : World} (h : LAt g k T zs w) : g < w.heap.size := by
  obtain ⟨cs, h1, _⟩ := h
  exact (Array.getElem?_eq_some_iff.1 h1).1
theorem LAt.blk {g k : Nat} {T : TypeId} {zs : List Int} {w w' : World} (h : LAt g k T zs w) (hb : w'.heap[g]? = w.heap[g]?) : LAt g k T zs w' := by
  obtain ⟨cs, h1, h2⟩ := h
  exact ⟨cs, hb.trans h1, h2⟩
theorem LAt.cell {g k : Nat} {T : TypeId} {zs : List Int} {w : World} (h : LAt g k T zs w) {i : Nat} (hi : i < k) : w.cell? ⟨g, i, none⟩ = some (.int .i64 (fld zs i)) := by
  obtain ⟨cs, h1, _, h3⟩ := h
  exact (cell_of_row w g i _ _ _ h1).trans (h3 i hi)
theorem LAt.frozen {g k : Nat} {T : TypeId} {zs : List Int} {w : World} (h : LAt g k T zs w) (i : Nat) : w.frozen? ⟨g, i, none⟩ = false := by
  obtain ⟨cs, h1, _, _⟩ := h
  exact frozen_of_row w g i _ _ h1
theorem LAt.snoc {g k : Nat} {T : TypeId} {zs : List Int} {w : World} (h : LAt g k T zs w) (hl : zs.length < k) (z : Int) : LAt g k T (zs ++ [z]) (w.setCell ⟨g, zs.length, none⟩ (.int .i64 z)) := by
  obtain ⟨cs, h1, h2, h3⟩ := h
  refine ⟨cs.setIfInBounds zs.length (.int .i64 z), heap_setCell_same w g zs.length _ _ (.int .i64 z) h1, by simp [h2], fun i hi => ?_⟩
  · rw [Array.getElem?_setIfInBounds]
    by_cases he : zs.length = i
    · subst he
      simp [fld, List.getD_eq_getElem?_getD, h2, hl]
    · rw [if_neg he, h3 i hi]
      unfold fld
      rw [List.getD_eq_getElem?_getD, List.getD_eq_getElem?_getD, List.getElem?_append]
      by_cases hlt : i < zs.length
      · rw [if_pos hlt]
      · rw [if_neg hlt, List.getElem?_eq_none (by omega), List.getElem?_eq_none (by simp; omega)]
theorem LAt.row {g k : Nat} {T : TypeId} {zs : List Int} {w : World} (h : LAt g k T zs w) {base size n : Nat} {e : TypeId} {v : Value} {xs : List Value} (hr : w.ownsRow base e size v n xs) (ht : T ≠ e) : v.ownBlock ≠ some g := by
  obtain ⟨cs, h1, _⟩ := h
  exact row_ne hr h1 ht
end Go.Proofs.YtcbalhicaipmlaaGreat
