/- Package snap: ticks of commands are written. -/
import Derived.Test.YtcbalhicaipmlaaGreatSRefQ
import Derived.Test.YtcbalhicaipmlaaGreatSSnE
import Derived.Test.YtcbalhicaipmlaaGreatSCkA
namespace Go.Proofs.YtcbalhicaipmlaaGreat
open Go.RowKit
theorem nums_seven (w : World) (s : List Int) (t : TypeId) : Nums (w.alloc (.cells (cmdC s) t)) (some ⟨w.heap.size, 0, none⟩) (normK 7 s) := by
  refine Or.inr ⟨w.heap.size, 0, rfl, fun i hi => ?_⟩
  have hh := heap_alloc_new w (.cells (cmdC s) t)
  rw [cell_of_row _ _ (0 + i) _ _ _ hh]
  have hi' : i < 7 := by simpa [normK] using hi
  match i, hi' with
  | 0, _ | 1, _ | 2, _ | 3, _ | 4, _ | 5, _ | 6, _ => rfl
def TksB (B : Nat) (w : World) (ta : Option Addr) (ls : List (List (List Int))) : Prop :=
  ls = [] ∨ ∃ c o, ta = some ⟨c, o, none⟩ ∧ ∀ i, i < ls.length → ∃ la lc, ∀ w', Below B w w' → w'.cell? ⟨c, o + i, none⟩ = some (.slice la (ls.getD i []).length lc) ∧ Recs w' la 7 (ls.getD i [])
theorem Tks.stay {w : World} {ta : Option Addr} {ls : List (List (List Int))} (h : Tks w ta ls) : TksB w.heap.size w ta ls := by
  rcases h with h | ⟨c, o, e, hc⟩
  · exact Or.inl h
  · refine Or.inr ⟨c, o, e, fun i hi => ?_⟩
    obtain ⟨la, lc, h1, h2⟩ := hc i hi
    exact ⟨la, lc, fun w' hb => ⟨(hb.cell (World.block_lt_of_cell? w _ h1)).trans h1, h2.below hb⟩⟩
theorem TksB.at {B : Nat} {w : World} {ta : Option Addr} {ls : List (List (List Int))} (h : TksB B w ta ls) {i : Nat} (hi : i < ls.length) : ∃ c o la lc, ta = some ⟨c, o, none⟩ ∧ ∀ w', Below B w w' → w'.cell? ⟨c, o + i, none⟩ = some (.slice la (ls.getD i []).length lc) ∧ Recs w' la 7 (ls.getD i []) := by
  rcases h with rfl | ⟨c, o, e, hc⟩
  · simp at hi
  · obtain ⟨la, lc, h1⟩ := hc i hi
    exact ⟨c, o, la, lc, e, h1⟩
set_option maxRecDepth 100000 in
set_option maxHeartbeats 2000000 in
theorem cmdNumbersX_calls (u : List Int) (w : World) : Calls Tryz.prog 38 #[cmdV u] w fun e w' => e = .returned (.slice (some ⟨w.heap.size + 1, 0, none⟩) 7 7) ∧ w' = (w.alloc (.cells (cmdC u) 85)).alloc (.cells (cmdC u) 3) := by
  go_enter Tryz.func38, Tryz.ntmps38
  go_wp2
  go_ret
  exact ⟨rfl, rfl⟩
theorem ticks_take {k n : Nat} {ls : List (List (List Int))} (h : n < ls.length) : (ls.take (n + 1)).flatMap (recsN k) = (ls.take n).flatMap (recsN k) ++ recsN k (ls.getD n []) := by
  rw [List.take_add_one, List.flatMap_append, List.getElem?_eq_getElem h, List.getD_eq_getElem?_getD, List.getElem?_eq_getElem h]
  simp
theorem ticks_len {k : Nat} : ∀ ls : List (List (List Int)), (∀ x ∈ ls, x.length ≤ 8) → (ls.flatMap (recsN k)).length ≤ (1 + k * 8) * ls.length
  | [], _ => by simp
  | x :: ls, h => by
    have h1 := ticks_len (k := k) ls (fun y hy => h y (List.mem_cons_of_mem _ hy))
    have h2 := h x List.mem_cons_self
    rw [List.flatMap_cons, List.length_append]
    unfold recsN
    rw [List.length_cons, flat_norm_length, List.length_cons, Nat.mul_succ]
    have h3 : k * x.length ≤ k * 8 := Nat.mul_le_mul_left k h2
    have : ((ls.flatMap fun es => (es.length : Int) :: es.flatMap (normK k)).length) = (ls.flatMap (recsN k)).length := rfl
    omega
set_option maxHeartbeats 4000000 in
set_option maxRecDepth 100000 in
theorem writeTicks_calls (B b : Nat) (l : List UInt8) (ls : List (List (List Int))) (ta : Option Addr) (tc : Nat) (w : World) (h : IsW B b l w) (ht : TksB B w ta ls) (hm : ∀ x ∈ ls, ∀ u ∈ x, ∀ j, j < 7 → Sml (fld u j)) (h60 : ls.length ≤ 60) (h8 : ∀ x ∈ ls, x.length ≤ 8) (hl : l.length ≤ 200000) (hB : B ≤ w.heap.size) :
    Calls Tryz.prog 68 #[.pointer (some ⟨b, 0, none⟩), .slice ta ls.length tc, .func (.func 38) #[] #[]] w fun e w' => e = .returned (.tuple #[]) ∧ IsW B b (l ++ numsL (ticksN 7 ls)) w' ∧ Below B w w' ∧ KeptW b w w' := by
  have eg : ∀ args w, (callFunc 38 args).run Tryz.prog w = .ok (.enter 38 args) w := enters_of Tryz.func38 (by kernel_rfl) rfl
  have HP := hid (put_fresh B b l _ [(ls.length : Int)] w h (nums_one w _ 3) (by intro z hz; rw [List.mem_singleton.1 hz]; exact ⟨by omega, by omega⟩) (by simp; omega) hB)
  have HT := hid ht
  have HS := hid hm
  have H8 := hid h8
  have hbB := h.lt
  clear h ht hm h8
  go_enter Tryz.func68, Tryz.ntmps68
  go_wp2_with fail
  refine HP.out.mono ?_
  rintro e w1 ⟨rfl, hw1, hb1, hk1⟩
  obtain ⟨l1, hl1⟩ : ∃ l1, l ++ numsL [(ls.length : Int)] = l1 := ⟨_, rfl⟩
  have hll1 : l1.length ≤ 200009 := by
    have := numsL_length [(ls.length : Int)]
    simp at this
    rw [← hl1, List.length_append]
    omega
  rw [hl1] at hw1
  have HL1 := hid hl1
  have H1 : Hid (IsW B b l1 w1 ∧ Below B w w1 ∧ KeptW b w w1) := ⟨hw1, hb1, hk1⟩
  clear HP hw1 hb1 hk1 hl1
  go_wp2
  go_loopw [17] (fun i wr => ∃ k : Nat, k ≤ ls.length ∧ i = .int .i64 k ∧ Hid (IsW B b (l1 ++ numsL ((ls.take k).flatMap (recsN 7))) wr ∧ Below B w wr ∧ KeptW b w wr)) (fun i _ => ls.length - (intOf i).toNat)
  case atStart => exact ⟨0, Nat.zero_le _, rfl, by rw [List.take_zero]; show IsW B b (l1 ++ []) w1; rw [List.append_nil]; exact H1.out.1, H1.out.2⟩
  case round =>
    clear H1
    obtain ⟨k, hk, rfl, HR⟩ := hrel
    by_cases hlt : k < ls.length
    · have hltz : (k : Int) < (ls.length : Int) := by omega
      obtain ⟨c, o, la, lc, rfl, hst⟩ := HT.out.at hlt
      have hc := (hst wr HR.out.2.1).1
      have HST := hid (fun w' hb => (hst w' hb).2)
      have hx8 := H8.out _ (getD_mem hlt [])
      have HXS := hid (HS.out _ (getD_mem hlt []))
      have HNX : Hid (numsL ((ls.take (k + 1)).flatMap (recsN 7)) = numsL ((ls.take k).flatMap (recsN 7)) ++ numsL (recsN 7 (ls.getD k []))) := by show _ = _; rw [ticks_take hlt, numsL_append]
      have hlk : (l1 ++ numsL ((ls.take k).flatMap (recsN 7))).length ≤ 240000 := by
        have e1 := numsL_length ((ls.take k).flatMap (recsN 7))
        have e2 := ticks_len (k := 7) (ls.take k) (fun x hx => H8.out x (List.mem_of_mem_take hx))
        rw [List.length_take] at e2
        rw [List.length_append]
        omega
      generalize ls.getD k [] = x at hc HST hx8 HXS HNX
      obtain ⟨l2, hl2⟩ : ∃ l2, l1 ++ numsL ((ls.take k).flatMap (recsN 7)) = l2 := ⟨_, rfl⟩
      rw [hl2] at HR hlk
      have HL2 := hid hl2
      have hsr : B ≤ wr.heap.size := by have := HR.out.2.1.size; omega
      have HPX := hid (put_fresh B b l2 _ [(x.length : Int)] wr HR.out.1 (nums_one wr _ 3) (by intro z hz; rw [List.mem_singleton.1 hz]; exact ⟨by omega, by omega⟩) (by simp; omega) hsr)
      have HBr := hid HR.out.2.1
      have HKr := hid HR.out.2.2
      clear hst hl2 HR
      go_wp2_with fail
      refine HPX.out.mono ?_
      rintro e w2 ⟨rfl, hw2, hb2, hk2⟩
      obtain ⟨l3, hl3⟩ : ∃ l3, l2 ++ numsL [(x.length : Int)] = l3 := ⟨_, rfl⟩
      rw [hl3] at hw2
      have hll3 : l3.length ≤ 240009 := by
        have := numsL_length [(x.length : Int)]
        simp at this
        rw [← hl3, List.length_append]
        omega
      have HL3 := hid hl3
      have H2 : Hid (IsW B b l3 w2 ∧ Below B w w2 ∧ KeptW b w w2) := ⟨hw2, HBr.out.trans hb2, HKr.out.trans hk2⟩
      clear HPX hw2 hb2 hk2 hl3 hc HBr HKr
      go_wp2
      go_loopw [28] (fun i wr => ∃ n : Nat, n ≤ x.length ∧ i = .int .i64 n ∧ Hid (IsW B b (l3 ++ numsL ((x.take n).flatMap (normK 7))) wr ∧ Below B w wr ∧ KeptW b w wr)) (fun i _ => x.length - (intOf i).toNat)
      case atStart => exact ⟨0, Nat.zero_le _, rfl, by rw [List.take_zero]; show IsW B b (l3 ++ []) w2; rw [List.append_nil]; exact H2.out.1, H2.out.2⟩
      case round =>
        clear H2
        obtain ⟨n, hn, rfl, HR⟩ := hrel
        by_cases hnx : n < x.length
        · have hnz : (n : Int) < (x.length : Int) := by omega
          obtain ⟨q, qo, rfl, hcs⟩ := (HST.out wr HR.out.2.1).at hnx
          have q0 : wr.cell? ⟨q, qo + n * 7, none⟩ = some (.int .i64 (fld (rec x n) 0)) := hcs 0 (by omega)
          have q1 := hcs 1 (by omega)
          have q2 := hcs 2 (by omega)
          have q3 := hcs 3 (by omega)
          have q4 := hcs 4 (by omega)
          have q5 := hcs 5 (by omega)
          have q6 := hcs 6 (by omega)
          have HN : Hid (numsL ((x.take (n + 1)).flatMap (normK 7)) = numsL ((x.take n).flatMap (normK 7)) ++ numsL (normK 7 (rec x n))) := by show _ = _; rw [recs_take hnx, numsL_append]
          have hu : ∀ z ∈ normK 7 (rec x n), Sml z := fun z hz => by
            unfold normK at hz
            obtain ⟨j, hj, rfl⟩ := List.mem_map.1 hz
            exact HXS.out _ (rec_mem hnx) j (List.mem_range.1 hj)
          have hlen : (l3 ++ numsL ((x.take n).flatMap (normK 7))).length ≤ 250000 := by
            have h1 := numsL_length ((x.take n).flatMap (normK 7))
            rw [flat_norm_length, List.length_take] at h1
            rw [List.length_append]
            omega
          generalize rec x n = u at q0 q1 q2 q3 q4 q5 q6 HN hu
          obtain ⟨X, hX⟩ : ∃ X, wr.alloc (.cells (cmdC u) 85) = X := ⟨_, rfl⟩
          have hbX : Below wr.heap.size wr X := by rw [← hX]; exact (Below.refl _ _).alloc (Nat.le_refl _) _
          obtain ⟨Y, hY⟩ : ∃ Y, X.alloc (.cells (cmdC u) 85) = Y := ⟨_, rfl⟩
          have hbY : Below X.heap.size X Y := by rw [← hY]; exact (Below.refl _ _).alloc (Nat.le_refl _) _
          have hsY : Y.heap.size = X.heap.size + 1 := by rw [← hY]; simp [go_sem]
          have hrY : Below wr.heap.size wr Y := hbX.trans (hbY.mono hbX.size)
          have hBY : Below B w Y := HR.out.2.1.trans (hrY.mono (by have := HR.out.2.1.size; omega))
          have HPX := hid (put_fresh B b _ _ (normK 7 u) Y (HR.out.1.below hrY) (nums_seven Y u 3) hu (by rw [normK_length]; omega) (by have := hBY.size; omega))
          have HCN := hid (cmdNumbersX_calls u X)
          rw [normK_length, hsY] at HPX
          rw [hY] at HCN
          have HBY := hid hBY
          have HKY : Hid (KeptW b w Y) := kept_below HR.out.2.2 hrY
          have HXE := hid hX
          clear hbX hbY hrY hBY hu hlen HR hcs hX hY
          go_wp2_with fail
          rw [HXE.out]
          refine HCN.out.mono ?_
          rintro e w4 ⟨rfl, rfl⟩
          clear HCN
          go_wp2_with fail
          refine HPX.out.mono ?_
          rintro e w6 ⟨rfl, hw6, hb6, hk6⟩
          have HR6 : Hid (IsW B b (l3 ++ numsL ((x.take (n + 1)).flatMap (normK 7))) w6 ∧ Below B w w6 ∧ KeptW b w w6) := ⟨by rw [HN.out, ← List.append_assoc]; exact hw6, HBY.out.trans hb6, HKY.out.trans hk6⟩
          clear hw6 hb6 hk6 HPX q0 q1 q2 q3 q4 q5 q6
          go_wp2
          go_roundw
          case rel => exact ⟨n + 1, by omega, by go_num, HR6.out⟩
          case measure => simp [intOf]; omega
        · have hnz : ¬ (n : Int) < (x.length : Int) := by omega
          have e : x.take n = x := List.take_of_length_le (by omega)
          rw [e] at HR
          have HR7 : Hid (IsW B b (l1 ++ numsL ((ls.take (k + 1)).flatMap (recsN 7))) wr ∧ Below B w wr ∧ KeptW b w wr) := by
            refine ⟨?_, HR.out.2⟩
            have e2 : l1 ++ numsL ((ls.take (k + 1)).flatMap (recsN 7)) = l3 ++ numsL (x.flatMap (normK 7)) := by
              rw [HNX.out, ← HL3.out, ← HL2.out]
              unfold recsN
              simp only [numsL_cons, numsL_nil, List.append_assoc, List.append_nil]
            rw [e2]
            exact HR.out.1
          clear HR e
          go_wp2
          go_roundw
          case rel => exact ⟨k + 1, by omega, by go_num, HR7.out⟩
          case measure => simp [intOf]; omega
    · have hltz : ¬ (k : Int) < (ls.length : Int) := by omega
      have e : ls.take k = ls := List.take_of_length_le (by omega)
      rw [e] at HR
      have e2 : l1 ++ numsL (ls.flatMap (recsN 7)) = l ++ numsL (ticksN 7 ls) := by
        rw [← HL1.out]
        unfold ticksN
        simp only [numsL_cons, numsL_nil, List.append_assoc, List.append_nil]
      have HE2 := hid e2
      clear e e2
      go_wp2
      go_end0
      exact ⟨rfl, by rw [← HE2.out]; exact HR.out.1, HR.out.2⟩
end Go.Proofs.YtcbalhicaipmlaaGreat
