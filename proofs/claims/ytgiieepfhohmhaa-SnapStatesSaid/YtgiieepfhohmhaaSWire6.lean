/- The walk of WireSays. -/
import Derived.Test.YtgiieepfhohmhaaSWire4
import Derived.Test.YtgiieepfhohmhaaSSnN
import Derived.Test.YtgiieepfhohmhaaSSnE
namespace Go.Proofs.Ytgiieepfhohmhaa
open Go.RowKit
theorem after {w a b : World} (h : Below w.heap.size w a) (k : Below a.heap.size a b) : Below w.heap.size w b := h.trans (k.mono h.size)
theorem open_frame (b : UInt8) (l : List UInt8) : openE b (frameL b l) = 0 ∧ openB b (frameL b l) = l := by
  have hlen := frameL_length b l
  have e1 : (frameL b l).take 4 = headL b := by
    unfold frameL
    rw [List.append_assoc, List.take_append_of_le_length (by rw [headL_length]; omega), List.take_of_length_le (by rw [headL_length]; omega)]
  have e2 : (frameL b l).take ((frameL b l).length - 4) = headL b ++ l := by
    rw [hlen]
    unfold frameL
    rw [List.take_append_of_le_length (by simp [headL_length]; omega), List.take_of_length_le (by simp [headL_length]; omega)]
  have e3 : (frameL b l).drop ((frameL b l).length - 4) = le4 (Cr.sumN (headL b ++ l)) := by
    rw [hlen]
    unfold frameL
    rw [List.drop_append_of_le_length (by simp [headL_length]; omega), List.drop_of_length_le (by simp [headL_length]; omega), List.nil_append]
  have e4 : openE b (frameL b l) = 0 := by
    unfold openE
    rw [if_neg (by omega), if_neg (by simp [e1]), if_neg (by rw [e2, e3]; simp)]
  refine ⟨e4, ?_⟩
  unfold openB midL
  rw [if_pos e4, hlen]
  unfold frameL
  rw [List.append_assoc, List.drop_append_of_le_length (by simp [headL_length]), List.drop_of_length_le (by simp [headL_length]), List.nil_append,
    List.take_append_of_le_length (by omega), List.take_of_length_le (by omega)]
end Go.Proofs.Ytgiieepfhohmhaa
namespace Go.Proofs.Ytgiieepfhohmhaa
open Go.RowKit
theorem normE {u : List Int} {j : Nat} (h : j < 10) : fld (normK 10 u) j = fld u j := fld_normK u h
theorem normU {u : List Int} {j : Nat} (h : j < 11) : fld (normK 11 u) j = fld u j := fld_normK u h
theorem norm_inv {s : St} (h : InvM s) : InvM (normS 10 s) := by
  refine invM_map h (normK 10) (fun u _ => ⟨normE (by omega), normE (by omega), normE (by omega)⟩) (fun u hu => ?_) (fun u hu => ?_) (fun u hu => ?_) ?_ (fun u hu h9 => ?_)
  · have := h.bd u hu
    unfold boundsE at this ⊢
    rw [normE (by omega), normE (by omega), normE (by omega), normE (by omega), normE (by omega), normE (by omega), normE (by omega)]
    exact this
  · have := h.pl u hu
    unfold placeE at this ⊢
    rw [normE (by omega), normE (by omega), normE (by omega), normE (by omega)]
    exact this
  · have := h.tg u hu
    unfold targetE at this ⊢
    rw [normE (by omega), normE (by omega)]
    exact this
  · rw [List.pairwise_map]
    refine List.Pairwise.imp ?_ h.ap
    intro a b hab
    rw [normE (by omega), normE (by omega), normE (by omega), normE (by omega)]
    exact hab
  · rw [normE (by omega)] at h9 ⊢
    obtain ⟨v, hv, e, hmay⟩ := h.am u hu h9
    refine ⟨v, hv, e, ?_⟩
    rw [normE (by omega)]
    unfold mayE mineE fightE at hmay ⊢
    rw [normE (by omega), normE (by omega)]
    exact hmay
theorem norm_invN {s : St} (h : InvN s) : InvN (normS 11 s) where
  t0 := h.t0
  t1 := h.t1
  n0 := h.n0
  n1 := h.n1
  a0 := h.a0
  a1 := h.a1
  el := by
    show (s.es.map (normK 11)).length ≤ 20
    rw [List.length_map]
    exact h.el
  bd := fun x hx => by
    obtain ⟨u, hu, rfl⟩ := List.mem_map.1 hx
    have := h.bd u hu
    unfold boundsN at this ⊢
    rw [normU (by omega), normU (by omega), normU (by omega), normU (by omega), normU (by omega), normU (by omega), normU (by omega)]
    exact this
  ow := fun x hx => by
    obtain ⟨u, hu, rfl⟩ := List.mem_map.1 hx
    have := h.ow u hu
    unfold ownerE at this ⊢
    rw [normU (by omega), normU (by omega)]
    exact this
  pl := fun x hx => by
    obtain ⟨u, hu, rfl⟩ := List.mem_map.1 hx
    have := h.pl u hu
    unfold placeN at this ⊢
    rw [normU (by omega), normU (by omega), normU (by omega), normU (by omega)]
    exact this
  tg := fun x hx => by
    obtain ⟨u, hu, rfl⟩ := List.mem_map.1 hx
    have := h.tg u hu
    unfold targetE at this ⊢
    rw [normU (by omega), normU (by omega)]
    exact this
  lt := fun x hx => by
    obtain ⟨u, hu, rfl⟩ := List.mem_map.1 hx
    rw [normU (by omega)]
    exact h.lt u hu
  sn := fun x hx => by
    obtain ⟨u, hu, rfl⟩ := List.mem_map.1 hx
    rw [normU (by omega)]
    exact h.sn u hu
  up := by
    show (s.es.map (normK 11)).Pairwise _
    rw [List.pairwise_map]
    refine List.Pairwise.imp ?_ h.up
    intro a b hab
    rw [normU (by omega), normU (by omega)]
    exact hab
  ap := by
    show (s.es.map (normK 11)).Pairwise _
    rw [List.pairwise_map]
    refine List.Pairwise.imp ?_ h.ap
    intro a b hab
    rw [normU (by omega), normU (by omega), normU (by omega), normU (by omega)]
    exact hab
  am := fun x hx h9 => by
    obtain ⟨u, hu, rfl⟩ := List.mem_map.1 hx
    rw [normU (by omega)] at h9 ⊢
    obtain ⟨v, hv, e, hmay⟩ := h.am u hu h9
    refine ⟨normK 11 v, List.mem_map_of_mem hv, by rw [normU (by omega)]; exact e, ?_⟩
    rw [normU (by omega)]
    unfold mayN mineN fightN at hmay ⊢
    rw [normU (by omega), normU (by omega), normU (by omega), normU (by omega)]
    exact hmay
  fr := h.fr
theorem rdE_by {s : St} (hI : Inv s) (hb : s.born = []) : rdE (frameL 69 (numsL (elderN s))) = (0, normS 10 s) := by
  obtain ⟨h1, h2⟩ := open_frame 69 (numsL (elderN s))
  have er := elder_read (smlE hI hb) []
  rw [List.append_nil] at er
  have hc := check_of_inv (norm_inv hI.mem).inv
  unfold rdE
  rw [if_pos h1, h2, er]
  rw [if_pos (show Rd.over ⟨[], 0⟩ = 0 from rfl), if_pos hc]
theorem rdN_by {s : St} (hI : InvN s) (hb : s.born = []) : rdN (frameL 78 (numsL (newerN s))) = (0, normS 11 s) := by
  obtain ⟨h1, h2⟩ := open_frame 78 (numsL (newerN s))
  have er := newer_read (smlN hI hb) hI.fr []
  rw [List.append_nil] at er
  have hc : ckN (normS 11 s) = 0 := check_of_invN (norm_invN hI)
  unfold rdN
  rw [if_pos h1, h2, er]
  rw [if_pos (show Rd.over ⟨[], 0⟩ = 0 from rfl), if_pos hc]
end Go.Proofs.Ytgiieepfhohmhaa
namespace Go.Proofs.Ytgiieepfhohmhaa
open Go.RowKit
set_option maxHeartbeats 2000000 in
set_option maxRecDepth 100000 in
theorem refNums_calls (a : Option Addr) (c : Nat) (zs : List Int) (w : World) (hn : Nums w a zs) (hz : ∀ z ∈ zs, Sml z) (hl : zs.length ≤ 10000) :
    Calls Try.prog 122 #[.slice a zs.length c] w fun e w' => e = .returned (.string ⟨(numsL zs).toArray⟩) ∧ Below w.heap.size w w' := by
  have HN := hid hn
  have HZ := hid hz
  clear hn hz
  go_enter Try.func122, Try.ntmps122
  go_wp2_with fail
  go_loopw [3, 4] (fun s i wr => ∃ k : Nat, k ≤ zs.length ∧ s = .string ⟨(numsL (zs.take k)).toArray⟩ ∧ i = .int .i64 k ∧ Hid (Below w.heap.size w wr)) (fun _ i _ => zs.length - (intOf i).toNat)
  case atStart => exact ⟨0, Nat.zero_le _, rfl, rfl, Below.refl _ _⟩
  case round =>
    obtain ⟨k, hk, rfl, rfl, HB⟩ := hrel
    by_cases hlt : k < zs.length
    · have hltz : (k : Int) < (zs.length : Int) := by omega
      obtain ⟨q, o, rfl, hcell⟩ := (HN.out.below HB.out).at hlt
      have hN : numsL (zs.take (k + 1)) = numsL (zs.take k) ++ Nu.num (fld zs k).toNat := numsL_take hlt
      have hm : Sml (fld zs k) := HZ.out _ (by
        unfold fld
        rw [List.getD_eq_getElem?_getD, List.getElem?_eq_getElem hlt]
        exact List.getElem_mem _)
      have hlen := numsL_length (zs.take k)
      have hnum := Nu.num_length (fld zs k).toNat
      have hl2 : (zs.take k).length = k := by rw [List.length_take]; omega
      have hm1 := hm.1
      have hm2 := hm.2
      obtain ⟨z, hzz⟩ : ∃ z : Nat, fld zs k = (z : Int) := ⟨(fld zs k).toNat, by omega⟩
      rw [hzz] at hcell hN hnum hm1 hm2
      rw [Int.toNat_natCast] at hN hnum
      have HNC := hid (refNum_calls z (by omega) wr)
      have HNX := hid hN
      have hbig : (numsL (zs.take k)).length + (Nu.num z).length ≤ 1000000 := by omega
      clear hN hm hm1 hm2 hzz hlen hnum hl2
      go_wp2_with fail
      refine HNC.out.mono ?_
      rintro e w2 ⟨rfl, hb2⟩
      have HB2 : Hid (Below w.heap.size w w2) := HB.out.trans (hb2.mono HB.out.size)
      clear hb2 HNC hcell
      go_wp2
      go_roundw
      case rel => exact ⟨k + 1, by omega, by rw [cat, HNX.out], by go_num, HB2.out⟩
      case measure => simp [intOf]; omega
    · have hltz : ¬ (k : Int) < (zs.length : Int) := by omega
      have e : zs.take k = zs := List.take_of_length_le (by omega)
      rw [e]
      go_wp2
      go_ret
      exact ⟨rfl, HB.out⟩
end Go.Proofs.Ytgiieepfhohmhaa
