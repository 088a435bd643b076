/- Package snap: numbers are put. -/
import Derived.Test.YtgiieepfhohmhabGreatZSnC
namespace Go.Proofs.YtgiieepfhohmhabGreat
open Go.RowKit
def Stays (B b : Nat) (w : World) (a : Option Addr) (zs : List Int) : Prop := ∀ w', Below B w w' → KeptW b w w' → Nums w' a zs
theorem Stays.next {B b : Nat} {w w' : World} {a : Option Addr} {zs : List Int} (h : Stays B b w a zs) (hb : Below B w w') (hk : KeptW b w w') : Stays B b w' a zs := fun w2 h1 h2 => h w2 (hb.trans h1) (hk.trans h2)
theorem IsW.drew {B b : Nat} {l : List UInt8} {w : World} (h : IsW B b l w) : IsW B b l w.drew := h
theorem IsW.below {B b : Nat} {l : List UInt8} {w w' : World} (h : IsW B b l w) (hb : Below w.heap.size w w') : IsW B b l w' := by
  have k : ∀ p, Lib.BuilderAt 209 5 B b p (Lib.byteCells l) w → Lib.BuilderAt 209 5 B b p (Lib.byteCells l) w' := fun p hp => by
    obtain ⟨h1, v, h2, h3, h4⟩ := hp
    exact ⟨h1, v, (hb.block b (Array.getElem?_eq_some_iff.1 h2).1).trans h2, row_below h3 hb, h4⟩
  rcases h with h | h
  · exact Or.inl (k _ h)
  · exact Or.inr (k _ h)
theorem IsW.lt {B b : Nat} {l : List UInt8} {w : World} (h : IsW B b l w) : b < w.heap.size := by
  rcases h with h | h <;> exact h.lt
set_option maxHeartbeats 2000000 in
set_option maxRecDepth 100000 in
theorem put_calls (B b : Nat) (l : List UInt8) (a : Option Addr) (c : Nat) (zs : List Int) (w : World) (h : IsW B b l w) (hs : Stays B b w a zs) (hz : ∀ z ∈ zs, Sml z) (hl : l.length + 9 * zs.length ≤ 1000000) (hB : B ≤ w.heap.size) :
    Calls Tryz.prog 128 #[.pointer (some ⟨b, 0, none⟩), .slice a zs.length c] w fun e w' => e = .returned (.tuple #[]) ∧ IsW B b (l ++ numsL zs) w' ∧ Below B w w' ∧ KeptW b w w' := by
  have HW := hid h
  have HS := hid hs
  have HZ := hid hz
  clear h hs hz
  go_enter Tryz.func128, Tryz.ntmps128
  go_wp2_with fail
  go_loopw [10] (fun i wr => ∃ k : Nat, k ≤ zs.length ∧ i = .int .i64 k ∧ Hid (IsW B b (l ++ numsL (zs.take k)) wr ∧ Below B w wr ∧ KeptW b w wr)) (fun i _ => zs.length - (intOf i).toNat)
  case atStart => exact ⟨0, Nat.zero_le _, rfl, by rw [List.take_zero]; show IsW B b (l ++ []) w; rw [List.append_nil]; exact HW.out, Below.refl _ _, Lib.OthersKept.refl _ _ _⟩
  case round =>
    obtain ⟨k, hk, rfl, HM⟩ := hrel
    by_cases hlt : k < zs.length
    · have hltz : (k : Int) < (zs.length : Int) := by omega
      obtain ⟨q, o, rfl, hcell⟩ := (HS.out _ HM.out.2.1 HM.out.2.2).at hlt
      have hN : numsL (zs.take (k + 1)) = numsL (zs.take k) ++ Nu.num (fld zs k).toNat := numsL_take hlt
      have hm : Sml (fld zs k) := HZ.out _ (by
        unfold fld
        rw [List.getD_eq_getElem?_getD, List.getElem?_eq_getElem hlt]
        exact List.getElem_mem _)
      have hlen := numsL_length (zs.take k)
      have hnum := Nu.num_length (fld zs k).toNat
      have hl2 : (zs.take k).length = k := by rw [List.length_take]; omega
      have hm1 := hm.1
      have hm2 := hm.2
      obtain ⟨z, hzz⟩ : ∃ z : Nat, fld zs k = (z : Int) := ⟨(fld zs k).toNat, by omega⟩
      rw [hzz] at hcell hN hnum hm1 hm2
      rw [Int.toNat_natCast] at hN hnum
      have HNC := hid (num_calls z (by omega) wr)
      have HN := hid hN
      clear hN hm hm1 hm2 hzz
      go_wp2_with fail
      refine HNC.out.mono ?_
      rintro e w2 ⟨rfl, hb2⟩
      have hw2 : IsW B b (l ++ numsL (zs.take k)) w2 := HM.out.1.below hb2
      have hB2 : Below B w w2 := HM.out.2.1.trans (hb2.mono (by have := HM.out.2.1.size; omega))
      have HWS := hid (writeString_calls B b (l ++ numsL (zs.take k)) (Nu.num z) w2 hw2 (by rw [List.length_append]; omega) (by have := hB2.size; omega))
      have HK2 : Hid (KeptW b w w2) := kept_below HM.out.2.2 hb2
      have HB2 := hid hB2
      clear hb2 hw2 hB2 HNC HM hcell
      go_wp2_with fail
      refine HWS.out.mono ?_
      rintro e w3 ⟨rfl, hw3, hb3, hk3⟩
      have HR : Hid (IsW B b (l ++ numsL (zs.take (k + 1))) w3 ∧ Below B w w3 ∧ KeptW b w w3) := ⟨by rw [HN.out, ← List.append_assoc]; exact hw3, HB2.out.trans hb3, HK2.out.trans hk3⟩
      clear hw3 hb3 hk3 HWS
      go_wp2
      go_roundw
      case rel => exact ⟨k + 1, by omega, by go_num, HR.out⟩
      case measure => simp [intOf]; omega
    · have hltz : ¬ (k : Int) < (zs.length : Int) := by omega
      have e : zs.take k = zs := List.take_of_length_le (by omega)
      rw [e] at HM
      go_wp2
      go_end0
      exact ⟨rfl, HM.out⟩
end Go.Proofs.YtgiieepfhohmhabGreat
