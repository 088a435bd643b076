/- The mark of a view: the program's, the reference's. -/
import Derived.Laws.OwnMore
import Derived.Test.YtgiieepfhohmhaaVEsRA
namespace Go.Proofs.Ytgiieepfhohmhaa
open Go.RowKit Go.Maps
abbrev viewC (t g0 g1 : Int) (av : Value) : Array Value := #[.int .i64 t, .int .i64 g0, .int .i64 g1, av]
abbrev viewV (t g0 g1 : Int) (av : Value) : Value := .agg (viewC t g0 g1 av)
def tenZ (s : List Int) : List Int := [fld s 0, fld s 1, fld s 2, fld s 3, fld s 4, fld s 5, fld s 6, fld s 7, fld s 8, fld s 9]
def tensZ (ss : List (List Int)) : List Int := ss.flatMap tenZ
def headZ (t g0 g1 : Int) (n : Nat) : List Int := [t, g0, g1, (n : Int)]
def markB : Int := 14695981039346656037
def markZ (t g0 g1 : Int) (ss : List (List Int)) : Int := mixL markB (headZ t g0 g1 ss.length ++ tensZ ss)
theorem mixL_append (h : Int) (a b : List Int) : mixL h (a ++ b) = mixL (mixL h a) b := List.foldl_append
theorem tensZ_next {ss : List (List Int)} {k : Nat} (hk : k < ss.length) : tensZ (ss.take (k + 1)) = tensZ (ss.take k) ++ tenZ (rec ss k) := by
  unfold tensZ
  rw [take_rec hk, List.flatMap_append]
  simp
theorem tensZ_length (ss : List (List Int)) : (tensZ ss).length = 10 * ss.length := by
  unfold tensZ
  induction ss with
  | nil => rfl
  | cons s ss ih =>
    rw [List.flatMap_cons, List.length_append, ih, List.length_cons]
    show 10 + _ = _
    omega
theorem nums_four (w : World) (a b c d : Int) (t : TypeId) : Nums (w.alloc (.cells #[.int .i64 a, .int .i64 b, .int .i64 c, .int .i64 d] t)) (some ⟨w.heap.size, 0, none⟩) [a, b, c, d] := by
  refine Or.inr ⟨w.heap.size, 0, rfl, fun i hi => ?_⟩
  rw [cell_of_row _ _ (0 + i) _ _ _ (heap_alloc_new w _), Nat.zero_add]
  have hi' : i < 4 := hi
  match i, hi' with
  | 0, _ | 1, _ | 2, _ | 3, _ => rfl
theorem nums_ten (w : World) (s : List Int) (t : TypeId) : Nums (w.alloc (.cells (entC s) t)) (some ⟨w.heap.size, 0, none⟩) (tenZ s) := by
  refine Or.inr ⟨w.heap.size, 0, rfl, fun i hi => ?_⟩
  rw [cell_of_row _ _ (0 + i) _ _ _ (heap_alloc_new w _), Nat.zero_add]
  have hi' : i < 10 := hi
  match i, hi' with
  | 0, _ | 1, _ | 2, _ | 3, _ | 4, _ | 5, _ | 6, _ | 7, _ | 8, _ | 9, _ => rfl
theorem four_cells {w : World} {b : Nat} {x0 x1 x2 x3 : Value} {t : TypeId} (h : w.heap[b]? = some (.cells #[x0, x1, x2, x3] t)) :
    w.cell? ⟨b, 0, none⟩ = some x0 ∧ w.cell? ⟨b, 1, none⟩ = some x1 ∧ w.cell? ⟨b, 2, none⟩ = some x2 ∧ w.cell? ⟨b, 3, none⟩ = some x3 ∧ (∀ j, w.frozen? ⟨b, j, none⟩ = false) :=
  ⟨cell_of_row w b 0 _ _ _ h, cell_of_row w b 1 _ _ _ h, cell_of_row w b 2 _ _ _ h, cell_of_row w b 3 _ _ _ h, fun j => frozen_of_row w b j _ _ h⟩
set_option maxRecDepth 100000 in
set_option maxHeartbeats 4000000 in
theorem mark_calls (t g0 g1 : Int) (ss : List (List Int)) (sa : Option Addr) (sc : Nat) (w : World) (hr : Recs w sa 10 ss) (hl : ss.length ≤ 1000) :
    Calls Try.prog 66 #[viewV t g0 g1 (.slice sa ss.length sc)] w fun e w' => e = .returned (.int .u64 (markZ t g0 g1 ss)) ∧ Below w.heap.size w w' := by
  obtain ⟨W, hW⟩ : ∃ W, w.alloc (.cells (viewC t g0 g1 (.slice sa ss.length sc)) 115) = W := ⟨_, rfl⟩
  have hbW : Below w.heap.size w W := by rw [← hW]; exact (Below.refl _ w).alloc (Nat.le_refl _) _
  have hh0 : W.heap[w.heap.size]? = some (.cells (viewC t g0 g1 (.slice sa ss.length sc)) 115) := by rw [← hW]; exact heap_alloc_new _ _
  obtain ⟨x0, x1, x2, x3, _⟩ := four_cells hh0
  have hwW : w.heap.size < W.heap.size := (Array.getElem?_eq_some_iff.1 hh0).1
  have HR := hid (hr.below hbW)
  have HBW := hid hbW
  have H0 := hid hh0
  clear hr hbW hh0
  go_enter Try.func66, Try.ntmps66
  go_wp2_with fail
  obtain ⟨V, hV⟩ : ∃ V, W.alloc (.cells #[.int .i64 t, .int .i64 g0, .int .i64 g1, .int .i64 ss.length] 3) = V := ⟨_, rfl⟩
  have hbV : Below W.heap.size W V := by rw [← hV]; exact (Below.refl _ _).alloc (Nat.le_refl _) _
  have HMX : Hid (Calls Try.prog 117 #[.int .u64 14695981039346656037, .slice (some ⟨W.heap.size, 0, none⟩) 4 4] V fun e w' => e = .returned (.int .u64 (mixL markB (headZ t g0 g1 ss.length))) ∧ w' = V) := mix_calls markB (headZ t g0 g1 ss.length) (some ⟨W.heap.size, 0, none⟩) 4 V (by rw [← hV]; exact nums_four W t g0 g1 ss.length _) (by simp [headZ])
  have HBV := hid hbV
  obtain ⟨y0, y1, y2, y3, _⟩ := four_cells ((hbV.block w.heap.size hwW).trans H0.out)
  rw [hV]
  clear hbV hV x0 x1 x2 x3 hW
  refine HMX.out.mono ?_
  rintro e w2 ⟨rfl, rfl⟩
  have HST : Hid (mixL markB (headZ t g0 g1 ss.length) = mixL markB (headZ t g0 g1 ss.length ++ tensZ (ss.take 0))) := by
    show mixL markB (headZ t g0 g1 ss.length) = mixL markB (headZ t g0 g1 ss.length ++ [])
    rw [List.append_nil]
  generalize mixL markB (headZ t g0 g1 ss.length) = m0 at HST ⊢
  clear HMX
  go_wp2_with fail
  clear y0 y1 y2 y3
  go_loopw [3, 22] (fun x i wr => ∃ k : Nat, k ≤ ss.length ∧ x = .int .u64 (mixL markB (headZ t g0 g1 ss.length ++ tensZ (ss.take k))) ∧ i = .int .i64 k ∧ Hid (Below W.heap.size W wr)) (fun _ i _ => ss.length - (intOf i).toNat)
  case atStart => exact ⟨0, Nat.zero_le _, by rw [HST.out], rfl, HBV⟩
  case round =>
    clear HST HBV
    obtain ⟨k, hk, rfl, rfl, HBr⟩ := hrel
    by_cases hlt : k < ss.length
    · have hltz : (k : Int) < (ss.length : Int) := by omega
      obtain ⟨b, o, rfl, hb, l0, l1, l2, l3, l4, l5, l6, l7, l8, l9⟩ := (HR.out.below HBr.out).ten hlt
      have HN : Hid (mixL (mixL markB (headZ t g0 g1 ss.length ++ tensZ (ss.take k))) (tenZ (rec ss k)) = mixL markB (headZ t g0 g1 ss.length ++ tensZ (ss.take (k + 1)))) := by
        show _ = _
        rw [← mixL_append, List.append_assoc, tensZ_next hlt]
      generalize rec ss k = u at l0 l1 l2 l3 l4 l5 l6 l7 l8 l9 HN
      generalize mixL markB (headZ t g0 g1 ss.length ++ tensZ (ss.take k)) = mk at HN ⊢
      go_wp2_with fail
      obtain ⟨X, hX⟩ : ∃ X, wr.alloc (.cells (entC u) 171) = X := ⟨_, rfl⟩
      have hbX : Below wr.heap.size wr X := by rw [← hX]; exact (Below.refl _ _).alloc (Nat.le_refl _) _
      have hsX : X.heap.size = wr.heap.size + 1 := by rw [← hX]; simp [go_sem]
      obtain ⟨Y, hY⟩ : ∃ Y, X.alloc (.cells (entC u) 3) = Y := ⟨_, rfl⟩
      have hbY : Below X.heap.size X Y := by rw [← hY]; exact (Below.refl _ _).alloc (Nat.le_refl _) _
      have HMX := hid (mix_calls mk (tenZ u) (some ⟨X.heap.size, 0, none⟩) 10 Y (by rw [← hY]; exact nums_ten X u _) (show (10 : Nat) ≤ 100000 by omega))
      have HBY : Hid (Below W.heap.size W Y) := HBr.out.trans ((hbX.trans (hbY.mono hbX.size)).mono HBr.out.size)
      rw [hsX, ← hY, ← hX] at HMX
      clear hbX hbY hsX l0 l1 l2 l3 l4 l5 l6 l7 l8 l9
      refine HMX.out.mono ?_
      rintro e w5 ⟨rfl, rfl⟩
      rw [hX, hY, HN.out]
      obtain ⟨mk2, hmk⟩ : ∃ m, mixL markB (headZ t g0 g1 ss.length ++ tensZ (ss.take (k + 1))) = m := ⟨_, rfl⟩
      rw [hmk]
      have HMK := hid hmk
      clear hmk
      go_wp2
      go_roundw
      case rel => exact ⟨k + 1, by omega, by rw [HMK.out], by go_num, HBY⟩
      case measure => simp [intOf]; omega
    · have hltz : ¬ (k : Int) < (ss.length : Int) := by omega
      have e : ss.take k = ss := List.take_of_length_le (by omega)
      rw [e]
      have HF : Hid (Below w.heap.size w wr) := HBW.out.trans (HBr.out.mono (Nat.le_of_lt hwW))
      go_wp2
      go_ret
      exact ⟨rfl, HF.out⟩
set_option maxRecDepth 100000 in
set_option maxHeartbeats 4000000 in
theorem markOf_calls (t g0 g1 : Int) (ss : List (List Int)) (sa : Option Addr) (sc : Nat) (w : World) (hr : Recs w sa 10 ss) (hl : ss.length ≤ 1000) :
    Calls Try.prog 67 #[viewV t g0 g1 (.slice sa ss.length sc)] w fun e w' => e = .returned (.int .u64 (markZ t g0 g1 ss)) ∧ Below w.heap.size w w' := by
  obtain ⟨W, hW⟩ : ∃ W, w.alloc (.cells (viewC t g0 g1 (.slice sa ss.length sc)) 115) = W := ⟨_, rfl⟩
  have hbW : Below w.heap.size w W := by rw [← hW]; exact (Below.refl _ w).alloc (Nat.le_refl _) _
  have hh0 : W.heap[w.heap.size]? = some (.cells (viewC t g0 g1 (.slice sa ss.length sc)) 115) := by rw [← hW]; exact heap_alloc_new _ _
  obtain ⟨x0, x1, x2, x3, _⟩ := four_cells hh0
  have hwW : w.heap.size < W.heap.size := (Array.getElem?_eq_some_iff.1 hh0).1
  have HR := hid (hr.below hbW)
  have HBW := hid hbW
  have H0 := hid hh0
  clear hr hbW hh0
  obtain ⟨V, hV⟩ : ∃ V, W.alloc (.cells #[.int .i64 t, .int .i64 g0, .int .i64 g1, .int .i64 ss.length] 3) = V := ⟨_, rfl⟩
  have hbV : Below W.heap.size W V := by rw [← hV]; exact (Below.refl _ _).alloc (Nat.le_refl _) _
  have HR0 : Hid (NRow W.heap.size V (.slice (some ⟨W.heap.size, 0, none⟩) 4 4) (headZ t g0 g1 ss.length ++ tensZ (ss.take 0))) := by
    rw [← hV]
    have h4 := World.ownsRow_lit (base := W.heap.size) (e := 3) (size := 1) W #[.int .i64 t, .int .i64 g0, .int .i64 g1, .int .i64 ss.length] 4 (Nat.le_refl _) (by unfold maxLen; omega) rfl
    exact h4
  have HBV := hid hbV
  clear hbV
  go_enter Try.func67, Try.ntmps67
  go_wp2_with fail
  clear x0 x1 x2 x3 hV hW
  go_loopw [3, 4] (fun v i wr => ∃ k : Nat, k ≤ ss.length ∧ i = .int .i64 k ∧ Hid (NRow W.heap.size wr v (headZ t g0 g1 ss.length ++ tensZ (ss.take k)) ∧ Below W.heap.size W wr)) (fun _ i _ => ss.length - (intOf i).toNat)
  case atStart => exact ⟨0, Nat.zero_le _, rfl, HR0.out, HBV.out⟩
  case round =>
    clear HR0 HBV
    obtain ⟨k, hk, rfl, HM⟩ := hrel
    have HBr := hid HM.out.2
    have hq := (HBr.out.block w.heap.size hwW).trans H0.out
    obtain ⟨_, _, _, y3, _⟩ := four_cells hq
    have hrow := HM.out.1
    obtain ⟨va, vc, rfl, _, _, _⟩ := hrow.open
    clear hq hrow
    by_cases hlt : k < ss.length
    · have hltz : (k : Int) < (ss.length : Int) := by omega
      obtain ⟨b, o, rfl, hb, l0, l1, l2, l3, l4, l5, l6, l7, l8, l9⟩ := (HR.out.below HBr.out).ten hlt
      have hlen : (headZ t g0 g1 ss.length ++ tensZ (ss.take k)).length ≤ 10100 := by
        rw [List.length_append, tensZ_length, List.length_take]
        show 4 + _ ≤ _
        omega
      have HN : Hid ((headZ t g0 g1 ss.length ++ tensZ (ss.take k)) ++ tenZ (rec ss k) = headZ t g0 g1 ss.length ++ tensZ (ss.take (k + 1))) := by
        show _ = _
        rw [List.append_assoc, tensZ_next hlt]
      generalize rec ss k = u at l0 l1 l2 l3 l4 l5 l6 l7 l8 l9 HN
      generalize headZ t g0 g1 ss.length ++ tensZ (ss.take k) = L at HN HM hlen ⊢
      obtain ⟨X, hX⟩ : ∃ X, wr.alloc (.cells (entC u) 171) = X := ⟨_, rfl⟩
      have hbX : Below wr.heap.size wr X := by rw [← hX]; exact (Below.refl _ _).alloc (Nat.le_refl _) _
      have hrX : NRow W.heap.size X (.slice va L.length vc) L := by rw [← hX]; exact World.ownsRow.alloc HM.out.1 _
      have HBX : Hid (Below W.heap.size W X) := HBr.out.trans (hbX.mono HBr.out.size)
      have HRX := hid hrX
      have hsX : X.heap.size = wr.heap.size + 1 := by rw [← hX]; simp [go_sem]
      have HXX := hid hX
      have HSX := hid hsX
      clear hbX hrX hX hsX
      go_wp2_with (first
        | (at_builtin; rw [HXX.out, ← HSX.out]; refine wp_nums (X.alloc (.cells (entC u) 3)) (by rfl) (.tmp 32) (.tmp 53) (by rfl) W.heap.size (.slice va L.length vc) L (by rfl) (World.ownsRow.alloc HRX.out _) (some ⟨X.heap.size, 0, none⟩) 10 (tenZ u) (by rfl) (nums_ten X u _) (fun h => by cases h) (show L.length + 10 ≤ 100000 by omega) (by have := HBX.out.size; simp [go_sem]; omega) ?_
           intro v6 w6 hr6 hg6 hl6
           have hb6 : Below W.heap.size W w6 := (HBX.out.alloc HBX.out.size _).grown hg6 (by have := HBX.out.size; simp [go_sem]; omega) (fun k hk => (World.ownsRow.lt HRX.out k hk).1)
           rw [HN.out] at hr6
           have HR6 := hid hr6
           have HB6 := hid hb6
           clear hr6 hg6 hl6 hb6))
      go_roundw
      case rel => exact ⟨k + 1, by omega, by go_num, HR6.out, HB6.out⟩
      case measure => simp [intOf]; omega
    · have hltz : ¬ (k : Int) < (ss.length : Int) := by omega
      have e : ss.take k = ss := List.take_of_length_le (by omega)
      rw [e] at HM ⊢
      have hlen : (headZ t g0 g1 ss.length ++ tensZ ss).length ≤ 10100 := by
        rw [List.length_append, tensZ_length]
        show 4 + _ ≤ _
        omega
      have HMZ : Hid (mixL markB (headZ t g0 g1 ss.length ++ tensZ ss) = markZ t g0 g1 ss) := rfl
      have HF : Hid (Below w.heap.size w wr) := HBW.out.trans (HBr.out.mono (Nat.le_of_lt hwW))
      have hrw := HM.out.1
      obtain ⟨_, _, e2, _, hns, _⟩ := hrw.open
      cases e2
      have HNS := hid hns
      generalize headZ t g0 g1 ss.length ++ tensZ ss = L at HNS hlen HMZ ⊢
      clear hns HM e hrw
      go_wp2_with fail
      obtain ⟨wa, rfl⟩ : ∃ x, x = wr := ⟨_, rfl⟩
      go_loopw [6, 7] (fun x i wr => ∃ k : Nat, k ≤ L.length ∧ x = .int .u64 (mixL markB (L.take k)) ∧ i = .int .i64 k ∧ wr = wa) (fun _ i _ => L.length - (intOf i).toNat)
      case atStart => exact ⟨0, Nat.zero_le _, rfl, rfl, rfl⟩
      case round =>
        obtain ⟨k, hk, rfl, rfl, rfl⟩ := hrel
        by_cases hlt2 : k < L.length
        · have hlt2z : (k : Int) < (L.length : Int) := by omega
          obtain ⟨b, o, rfl, hc⟩ := HNS.out.at hlt2
          have HX := hid (mixL_next markB hlt2)
          go_wp2
          go_roundw
          case rel => exact ⟨k + 1, by omega, by rw [← HX.out]; rfl, by go_num, trivial⟩
          case measure => simp [intOf]; omega
        · have hlt2z : ¬ (k : Int) < (L.length : Int) := by omega
          have e : L.take k = L := List.take_of_length_le (by omega)
          rw [e, HMZ.out]
          go_wp2
          go_ret
          exact ⟨rfl, HF.out⟩
end Go.Proofs.Ytgiieepfhohmhaa
