/- The walk of WireSays. -/
import Derived.Test.YtcbalhicaipmlaaGreatRWire5
import Derived.Test.YtcbalhicaipmlaaGreatRSnN
import Derived.Test.YtcbalhicaipmlaaGreatRRulA
import Derived.Test.YtcbalhicaipmlaaGreatRElA
import Derived.Test.YtcbalhicaipmlaaGreatRElB
import Derived.Test.YtcbalhicaipmlaaGreatRRefQ
namespace Go.Proofs.YtcbalhicaipmlaaGreat
open Go.RowKit
theorem after {w a b : World} (h : Below w.heap.size w a) (k : Below a.heap.size a b) : Below w.heap.size w b := h.trans (k.mono h.size)
theorem open_frame (b : UInt8) (l : List UInt8) : openE b (frameL b l) = 0 ∧ openB b (frameL b l) = l := by
  have hlen := frameL_length b l
  have e1 : (frameL b l).take 4 = headL b := by
    unfold frameL
    rw [List.append_assoc, List.take_append_of_le_length (by rw [headL_length]; omega), List.take_of_length_le (by rw [headL_length]; omega)]
  have e2 : (frameL b l).take ((frameL b l).length - 4) = headL b ++ l := by
    rw [hlen]
    unfold frameL
    rw [List.take_append_of_le_length (by simp [headL_length]; omega), List.take_of_length_le (by simp [headL_length]; omega)]
  have e3 : (frameL b l).drop ((frameL b l).length - 4) = le4 (Cr.sumN (headL b ++ l)) := by
    rw [hlen]
    unfold frameL
    rw [List.drop_append_of_le_length (by simp [headL_length]; omega), List.drop_of_length_le (by simp [headL_length]; omega), List.nil_append]
  have e4 : openE b (frameL b l) = 0 := by
    unfold openE
    rw [if_neg (by omega), if_neg (by simp [e1]), if_neg (by rw [e2, e3]; simp)]
  refine ⟨e4, ?_⟩
  unfold openB midL
  rw [if_pos e4, hlen]
  unfold frameL
  rw [List.append_assoc, List.drop_append_of_le_length (by simp [headL_length]), List.drop_of_length_le (by simp [headL_length]), List.nil_append,
    List.take_append_of_le_length (by omega), List.take_of_length_le (by omega)]
end Go.Proofs.YtcbalhicaipmlaaGreat
namespace Go.Proofs.YtcbalhicaipmlaaGreat
open Go.RowKit
theorem normE {u : List Int} {j : Nat} (h : j < 10) : fld (normK 10 u) j = fld u j := fld_normK u h
theorem norm_inv {s : St} (h : InvM s) : InvM (normS 10 s) := by
  refine invM_map h (normK 10) (fun u _ => ⟨normE (by omega), normE (by omega), normE (by omega)⟩) (fun u hu => ?_) (fun u hu => ?_) (fun u hu => ?_) ?_ (fun u hu h9 => ?_)
  · have := h.bd u hu
    unfold boundsE at this ⊢
    rw [normE (by omega), normE (by omega), normE (by omega), normE (by omega), normE (by omega), normE (by omega), normE (by omega)]
    exact this
  · have := h.pl u hu
    unfold placeE at this ⊢
    rw [normE (by omega), normE (by omega), normE (by omega), normE (by omega)]
    exact this
  · have := h.tg u hu
    unfold targetE at this ⊢
    rw [normE (by omega), normE (by omega)]
    exact this
  · rw [List.pairwise_map]
    refine List.Pairwise.imp ?_ h.ap
    intro a b hab
    rw [normE (by omega), normE (by omega), normE (by omega), normE (by omega)]
    exact hab
  · rw [normE (by omega)] at h9 ⊢
    obtain ⟨v, hv, e, hmay⟩ := h.am u hu h9
    refine ⟨v, hv, e, ?_⟩
    rw [normE (by omega)]
    unfold mayE mineE fightE at hmay ⊢
    rw [normE (by omega), normE (by omega)]
    exact hmay
theorem rdE_by {s : St} (hI : Inv s) (hb : s.born = []) : rdE (frameL 69 (numsL (elderN s))) = (0, normS 10 s) := by
  obtain ⟨h1, h2⟩ := open_frame 69 (numsL (elderN s))
  have er := elder_read (smlE hI hb) []
  rw [List.append_nil] at er
  have hc := check_of_inv (norm_inv hI.mem).inv
  unfold rdE
  rw [if_pos h1, h2, er]
  rw [if_pos (show Rd.over ⟨[], 0⟩ = 0 from rfl), if_pos hc]
end Go.Proofs.YtcbalhicaipmlaaGreat
namespace Go.Proofs.YtcbalhicaipmlaaGreat
open Go.RowKit
def tooM (ls : List (List (List Int))) : Bool := ls.any fun l => decide (8 < l.length)
def negU (k : Nat) (u : List Int) : Bool := (List.range k).any fun j => decide (fld u j < 0)
def negB (k : Nat) (ls : List (List (List Int))) : Bool := ls.any fun l => l.any (negU k)
def ckT (k : Nat) (c : Nat) (t : Int) (ls : List (List (List Int))) : Nat :=
  if c = 0 then (if (decide (60 - t < (ls.length : Int)) || tooM ls) = true then 2 else if negB k ls = true then 1 else 0) else c
theorem ckT_zero {k c : Nat} {t : Int} {ls : List (List (List Int))} (h : ckT k c t ls = 0) : c = 0 ∧ (ls.length : Int) ≤ 60 - t ∧ (∀ l ∈ ls, l.length ≤ 8) ∧ ∀ l ∈ ls, ∀ u ∈ l, ∀ j, j < k → 0 ≤ fld u j := by
  unfold ckT at h
  by_cases hc : c = 0
  · rw [if_pos hc] at h
    refine ⟨hc, ?_⟩
    by_cases h2 : (decide (60 - t < (ls.length : Int)) || tooM ls) = true
    · rw [if_pos h2] at h; cases h
    · rw [if_neg h2] at h
      rw [Bool.or_eq_true, not_or, decide_eq_true_eq] at h2
      by_cases h3 : negB k ls = true
      · rw [if_pos h3] at h; cases h
      · refine ⟨by omega, fun l hl => ?_, fun l hl u hu j hj => ?_⟩
        · by_cases h8 : l.length ≤ 8
          · exact h8
          · exact absurd (List.any_eq_true.2 ⟨l, hl, decide_eq_true (by omega)⟩) h2.2
        · by_cases h0 : 0 ≤ fld u j
          · exact h0
          · exact absurd (List.any_eq_true.2 ⟨l, hl, List.any_eq_true.2 ⟨u, hu, List.any_eq_true.2 ⟨j, List.mem_range.2 hj, decide_eq_true (by omega)⟩⟩⟩) h3
  · rw [if_neg hc] at h
    exact absurd h hc
def rdT (l : List UInt8) : Nat × St × List (List (List Int)) :=
  if openE 84 l = 0 then (if (Rd.tape 7 (Rd.mk (openB 84 l) 0).elder.2).2.over = 0 then (if ckT 7 (checkE (Rd.mk (openB 84 l) 0).elder.1.t (Rd.mk (openB 84 l) 0).elder.1.g0 (Rd.mk (openB 84 l) 0).elder.1.g1 (Rd.mk (openB 84 l) 0).elder.1.nx (Rd.mk (openB 84 l) 0).elder.1.free (Rd.mk (openB 84 l) 0).elder.1.es) (Rd.mk (openB 84 l) 0).elder.1.t (Rd.tape 7 (Rd.mk (openB 84 l) 0).elder.2).1 = 0 then (0, (Rd.mk (openB 84 l) 0).elder.1, (Rd.tape 7 (Rd.mk (openB 84 l) 0).elder.2).1) else (ckT 7 (checkE (Rd.mk (openB 84 l) 0).elder.1.t (Rd.mk (openB 84 l) 0).elder.1.g0 (Rd.mk (openB 84 l) 0).elder.1.g1 (Rd.mk (openB 84 l) 0).elder.1.nx (Rd.mk (openB 84 l) 0).elder.1.free (Rd.mk (openB 84 l) 0).elder.1.es) (Rd.mk (openB 84 l) 0).elder.1.t (Rd.tape 7 (Rd.mk (openB 84 l) 0).elder.2).1, zeroS, [])) else ((Rd.tape 7 (Rd.mk (openB 84 l) 0).elder.2).2.over, zeroS, [])) else (openE 84 l, zeroS, [])
def rdR (l : List UInt8) : Nat × St × List (List (List Int)) :=
  if openE 82 l = 0 then (if (Rd.tape 6 (Rd.mk (openB 82 l) 0).newer.2).2.over = 0 then (if ckT 6 (ckN (Rd.mk (openB 82 l) 0).newer.1) (Rd.mk (openB 82 l) 0).newer.1.t (Rd.tape 6 (Rd.mk (openB 82 l) 0).newer.2).1 = 0 then (0, (Rd.mk (openB 82 l) 0).newer.1, (Rd.tape 6 (Rd.mk (openB 82 l) 0).newer.2).1) else (ckT 6 (ckN (Rd.mk (openB 82 l) 0).newer.1) (Rd.mk (openB 82 l) 0).newer.1.t (Rd.tape 6 (Rd.mk (openB 82 l) 0).newer.2).1, zeroS, [])) else ((Rd.tape 6 (Rd.mk (openB 82 l) 0).newer.2).2.over, zeroS, [])) else (openE 82 l, zeroS, [])
end Go.Proofs.YtcbalhicaipmlaaGreat
namespace Go.Proofs.YtcbalhicaipmlaaGreat
open Go.RowKit
theorem tooM_yes {ls : List (List (List Int))} {j : Nat} (hj : j < ls.length) (h : 8 < (ls.getD j []).length) : tooM ls = true := by
  unfold tooM
  rw [List.any_eq_true]
  refine ⟨ls.getD j [], ?_, decide_eq_true h⟩
  rw [List.getD_eq_getElem?_getD, List.getElem?_eq_getElem hj]
  exact List.getElem_mem hj
theorem tooM_no {ls : List (List (List Int))} (h : ∀ j, j < ls.length → ¬ 8 < (ls.getD j []).length) : tooM ls = false := by
  unfold tooM
  rw [List.any_eq_false]
  intro l hl
  obtain ⟨j, hj, rfl⟩ := List.getElem_of_mem hl
  have := h j hj
  rw [List.getD_eq_getElem?_getD, List.getElem?_eq_getElem hj] at this
  simpa using this
def IdxP (b : Bool) (w : World) (e : Ending) (w' : World) : Prop := ∃ r : Int, e = .returned (.int .i64 r) ∧ decide (0 ≤ r) = b ∧ w' = w
set_option maxHeartbeats 1000000 in
theorem tooMany1_calls (la : Option Addr) (n lc : Nat) (w : World) :
    Calls Tryz.prog 114 #[.slice la n lc] w fun e w' => e = .returned (.bool (decide (8 < n))) ∧ w' = w := by
  by_cases h : 8 < n
  · rw [decide_eq_true h]
    have hz : (8 : Int) < (n : Int) := by omega
    go_enter Tryz.func114, Tryz.ntmps114
    go_wp2
    go_ret
    exact ⟨rfl, rfl⟩
  · rw [decide_eq_false h]
    have hz : ¬ (8 : Int) < (n : Int) := by omega
    go_enter Tryz.func114, Tryz.ntmps114
    go_wp2
    go_ret
    exact ⟨rfl, rfl⟩
set_option maxHeartbeats 2000000 in
theorem indexT_calls (ls : List (List (List Int))) (ta : Option Addr) (tc : Nat) (w : World) (hn : ls.length ≤ 1000) (ht : Tks w ta ls) :
    Calls Tryz.prog 135 #[.slice ta ls.length tc, .func (.func 114) #[] #[]] w (IdxP (tooM ls) w) := by
  have eg : ∀ args w, (callFunc 114 args).run Tryz.prog w = .ok (.enter 114 args) w := enters_of Tryz.func114 (by kernel_rfl) rfl
  have HT := hid ht
  clear ht
  go_enter Tryz.func135, Tryz.ntmps135
  go_wp2
  go_loopw [8] (fun i wr => ∃ k : Nat, k ≤ ls.length ∧ i = .int .i64 k ∧ Hid (wr = w) ∧ Hid (∀ j, j < k → ¬ 8 < (ls.getD j []).length)) (fun i _ => ls.length - (intOf i).toNat)
  case atStart => exact ⟨0, Nat.zero_le _, rfl, hid rfl, fun j hj => absurd hj (Nat.not_lt_zero _)⟩
  case round =>
    obtain ⟨k, hk, rfl, HW, HA⟩ := hrel
    by_cases hlt : k < ls.length
    · have hltz : (k : Int) < (ls.length : Int) := by omega
      obtain ⟨b, o, la, lc, rfl, hc, hr⟩ := HT.out.at hlt
      rw [← HW.out] at hc
      have HNO := hid HA.out
      have HY := hid (fun h => @tooM_yes ls k hlt h)
      obtain ⟨n, hn0⟩ : ∃ n, (ls.getD k []).length = n := ⟨_, rfl⟩
      have HEQ := hid hn0
      rw [hn0] at hc HY
      clear hn0
      clear hr
      have HC := hid (tooMany1_calls la n lc wr)
      by_cases h8 : 8 < n
      · have HT8 := hid (HY.out h8)
        rw [decide_eq_true h8] at HC
        clear h8
        go_wp2_with fail
        refine HC.out.mono ?_
        rintro e w' ⟨rfl, rfl⟩
        clear HC
        go_wp2
        go_ret
        exact ⟨(k : Int), rfl, by rw [HT8.out]; exact decide_eq_true (by omega), HW.out⟩
      · have HN : Hid (∀ j, j < k + 1 → ¬ 8 < (ls.getD j []).length) := fun j hj => by
          by_cases e : j = k
          · rw [e, HEQ.out]; exact h8
          · exact HNO.out j (by omega)
        rw [decide_eq_false h8] at HC
        clear h8 HA HNO
        go_wp2_with fail
        refine HC.out.mono ?_
        rintro e w' ⟨rfl, rfl⟩
        clear HC
        go_wp2
        go_roundw
        case rel => exact ⟨k + 1, by omega, by go_num, HW, HN⟩
        case measure => simp [intOf]; omega
    · have hltz : ¬ (k : Int) < (ls.length : Int) := by omega
      have HNO := hid (tooM_no (fun j hj => HA.out j (by omega)))
      clear HA
      go_wp2
      go_ret
      exact ⟨-1, rfl, by rw [HNO.out]; rfl, HW.out⟩
set_option maxHeartbeats 1000000 in
theorem containsT_calls (ls : List (List (List Int))) (ta : Option Addr) (tc : Nat) (w : World) (hn : ls.length ≤ 1000) (ht : Tks w ta ls) :
    Calls Tryz.prog 113 #[.slice ta ls.length tc, .func (.func 114) #[] #[]] w fun e w' => e = .returned (.bool (tooM ls)) ∧ w' = w := by
  have HC := hid (indexT_calls ls ta tc w hn ht)
  clear ht
  go_enter Tryz.func113, Tryz.ntmps113
  go_wp2_with fail
  refine HC.out.mono ?_
  rintro e w' ⟨r, rfl, hr, rfl⟩
  have HR := hid hr
  clear HC hr
  go_wp2
  go_ret
  exact ⟨by rw [← HR.out]; rfl, rfl⟩
set_option maxHeartbeats 1000000 in
theorem tooMany_calls (ls : List (List (List Int))) (ta : Option Addr) (tc : Nat) (left : Int) (w : World) (hn : ls.length ≤ 1000) (ht : Tks w ta ls) :
    Calls Tryz.prog 77 #[.slice ta ls.length tc, .int .i64 left] w fun e w' => e = .returned (.bool (decide (left < (ls.length : Int)) || tooM ls)) ∧ w' = w := by
  by_cases h : left < (ls.length : Int)
  · rw [decide_eq_true h, Bool.true_or]
    go_enter Tryz.func77, Tryz.ntmps77
    go_wp2
    go_ret
    exact ⟨rfl, rfl⟩
  · rw [decide_eq_false h, Bool.false_or]
    have HC := hid (containsT_calls ls ta tc w hn ht)
    clear ht
    go_enter Tryz.func77, Tryz.ntmps77
    go_wp2_with fail
    refine HC.out.mono ?_
    rintro e w' ⟨rfl, rfl⟩
    clear HC
    go_wp2
    go_ret
    exact ⟨rfl, rfl⟩
def RowP (k : Nat) (u : List Int) (w : World) (e : Ending) (w' : World) : Prop := ∃ g, e = .returned (.slice (some ⟨g, 0, none⟩) k k) ∧ (∀ j, j < k → w'.cell? ⟨g, j, none⟩ = some (.int .i64 (fld u j))) ∧ Below w.heap.size w w'
theorem cmd_cells {w : World} {b : Nat} {u : List Int} {t : TypeId} (h : w.heap[b]? = some (.cells (cmdC u) t)) : ∀ j, j < 7 → w.cell? ⟨b, j, none⟩ = some (.int .i64 (fld u j)) := fun j hj => by
  rw [cell_of_row w b j _ _ _ h]
  match j, hj with
  | 0, _ => rfl
  | 1, _ => rfl
  | 2, _ => rfl
  | 3, _ => rfl
  | 4, _ => rfl
  | 5, _ => rfl
  | 6, _ => rfl
set_option maxRecDepth 100000 in
set_option maxHeartbeats 2000000 in
theorem cmdNumbers_calls (u : List Int) (w : World) : Calls Tryz.prog 38 #[cmdV u] w (RowP 7 u w) := by
  have hb : Below w.heap.size w ((w.alloc (.cells (cmdC u) 85)).alloc (.cells (cmdC u) 3)) := ((Below.refl _ w).alloc (Nat.le_refl _) _).alloc (by simp [go_sem]) _
  have hs : (w.alloc (.cells (cmdC u) 85)).heap.size = w.heap.size + 1 := by simp [go_sem]
  have hh : ((w.alloc (.cells (cmdC u) 85)).alloc (.cells (cmdC u) 3)).heap[w.heap.size + 1]? = some (.cells (cmdC u) 3) := by
    rw [← hs]
    exact heap_alloc_new _ _
  have HB := hid hb
  have HH := hid hh
  clear hb hh hs
  go_enter Tryz.func38, Tryz.ntmps38
  go_wp2
  go_ret
  exact ⟨w.heap.size + 1, rfl, cmd_cells HH.out, HB.out⟩
def MinP (k : Nat) (u : List Int) (w : World) (e : Ending) (w' : World) : Prop := ∃ m : Int, e = .returned (.int .i64 m) ∧ decide (m < 0) = negU k u ∧ w' = w
theorem negU_iff (k : Nat) (u : List Int) (b : Bool) (h : b = true ↔ ∃ j, j < k ∧ fld u j < 0) : b = negU k u := by
  unfold negU
  rw [Bool.eq_iff_iff, h, List.any_eq_true]
  constructor
  · rintro ⟨j, hj, hn⟩
    exact ⟨j, List.mem_range.2 hj, decide_eq_true hn⟩
  · rintro ⟨j, hj, hn⟩
    exact ⟨j, List.mem_range.1 hj, of_decide_eq_true hn⟩
set_option maxRecDepth 100000 in
set_option maxHeartbeats 2000000 in
theorem min_calls (k : Nat) (hk : 1 ≤ k) (hk9 : k ≤ 1000) (u : List Int) (g : Nat) (w : World) (hg : ∀ j, j < k → w.cell? ⟨g, j, none⟩ = some (.int .i64 (fld u j))) :
    Calls Tryz.prog 78 #[.slice (some ⟨g, 0, none⟩) k k] w (MinP k u w) := by
  have c0 : w.cell? ⟨g, 0, none⟩ = some (.int .i64 (fld u 0)) := hg 0 (by omega)
  have z0 : ¬ (k : Int) < 1 := by omega
  have z1 : (0 : Int) < (k : Int) := by omega
  have z2 : 0 < k := by omega
  have HG := hid hg
  clear hg
  go_enter Tryz.func78, Tryz.ntmps78
  go_wp2
  go_loopw [3, 4] (fun s3 s4 wr => ∃ (i : Nat) (m : Int), (1 ≤ i ∧ i ≤ k) ∧ s3 = .int .i64 m ∧ s4 = .int .i64 i ∧ Hid (wr = w) ∧ Hid (m < 0 ↔ ∃ j, j < i ∧ fld u j < 0)) (fun _ s4 _ => k - (intOf s4).toNat)
  case atStart => exact ⟨1, fld u 0, ⟨Nat.le_refl _, hk⟩, rfl, rfl, hid rfl, ⟨fun h => ⟨0, by omega, h⟩, fun ⟨j, hj, h⟩ => by rw [show j = 0 by omega] at h; exact h⟩⟩
  case round =>
    obtain ⟨i, m, ⟨hi1, hik⟩, rfl, rfl, HW, HM⟩ := hrel
    by_cases hi : i < k
    · have hiz : (i : Int) < (k : Int) := by omega
      have ci := HG.out i hi
      rw [← HW.out] at ci
      have HNX : Hid (∀ x : Int, x = min m (fld u i) → (x < 0 ↔ ∃ j, j < i + 1 ∧ fld u j < 0)) := fun x hx => by
        constructor
        · intro h
          by_cases hm : m < 0
          · obtain ⟨j, hj, hn⟩ := HM.out.1 hm
            exact ⟨j, by omega, hn⟩
          · exact ⟨i, by omega, by omega⟩
        · rintro ⟨j, hj, hn⟩
          by_cases e : j = i
          · rw [e] at hn; omega
          · have := HM.out.2 ⟨j, by omega, hn⟩
            omega
      generalize fld u i = z at ci HNX
      by_cases hlt : z < m
      · have HN := hid (HNX.out z (by omega))
        clear HM HNX c0
        go_wp2
        go_roundw
        case rel => exact ⟨i + 1, z, ⟨by omega, by omega⟩, by go_num, by go_num, HW, HN⟩
        case measure => simp [intOf]; omega
      · have HN := hid (HNX.out m (by omega))
        clear HM HNX c0
        go_wp2
        go_roundw
        case rel => exact ⟨i + 1, m, ⟨by omega, by omega⟩, by go_num, by go_num, HW, HN⟩
        case measure => simp [intOf]; omega
    · have hiz : ¬ (i : Int) < (k : Int) := by omega
      have hie : i = k := by omega
      have HF : Hid (decide (m < 0) = negU k u) := negU_iff k u _ (by rw [decide_eq_true_iff, ← hie]; exact HM.out)
      clear HM
      go_wp2
      go_ret
      exact ⟨m, rfl, HF.out, HW.out⟩
end Go.Proofs.YtcbalhicaipmlaaGreat
