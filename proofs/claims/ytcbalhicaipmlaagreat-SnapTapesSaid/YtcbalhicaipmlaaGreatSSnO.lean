/- The reference: the text of a state. -/
import Derived.Test.YtcbalhicaipmlaaGreatSRgU
import Derived.Test.YtcbalhicaipmlaaGreatSCkC
import Derived.Test.YtcbalhicaipmlaaGreatSRlC
namespace Go.Proofs.YtcbalhicaipmlaaGreat
open Go.RowKit
theorem nums_five (w : World) (a b c d e : Int) (t : TypeId) : Nums (w.alloc (.cells #[.int .i64 a, .int .i64 b, .int .i64 c, .int .i64 d, .int .i64 e] t)) (some ⟨w.heap.size, 0, none⟩) [a, b, c, d, e] := by
  refine Or.inr ⟨w.heap.size, 0, rfl, fun i hi => ?_⟩
  have hh := heap_alloc_new w (.cells #[.int .i64 a, .int .i64 b, .int .i64 c, .int .i64 d, .int .i64 e] t)
  rw [cell_of_row _ _ (0 + i) _ _ _ hh]
  match i, hi with
  | 0, _ | 1, _ | 2, _ | 3, _ | 4, _ => rfl
set_option maxHeartbeats 8000000 in
set_option maxRecDepth 100000 in
theorem elderText_calls (s : St) (fa ea : Option Addr) (fc ec : Nat) (w : World) (h : InE w s fa ea fc ec) (hm : SmlS 10 s) :
    Calls Tryz.prog 42 #[elderV s.t s.g0 s.g1 s.nx (.slice fa s.free.length fc) (.slice ea s.es.length ec)] w fun e w' => e = .returned (.string ⟨(numsL (elderN s)).toArray⟩) ∧ Below w.heap.size w w' := by
  obtain ⟨W, hW⟩ : ∃ W, w.alloc (.cells (elC s.t s.g0 s.g1 s.nx (.slice fa s.free.length fc) (.slice ea s.es.length ec)) 26) = W := ⟨_, rfl⟩
  have hbW : Below w.heap.size w W := by rw [← hW]; exact (Below.refl _ w).alloc (Nat.le_refl _) _
  have hsW : W.heap.size = w.heap.size + 1 := by rw [← hW]; simp [go_sem]
  have hh0 : W.heap[w.heap.size]? = some (.cells (elC s.t s.g0 s.g1 s.nx (.slice fa s.free.length fc) (.slice ea s.es.length ec)) 26) := by rw [← hW]; exact heap_alloc_new _ _
  have hfl := hm.fl
  have hel := hm.el
  have HIN := hid (h.below hbW)
  have HM := hid hm
  have H0 := hid hh0
  have HBW := hid hbW
  have HSW := hid hsW
  have hsw1 : w.heap.size < W.heap.size := by omega
  clear hsW
  obtain ⟨a0, a1, a2, a3, a4, a5⟩ := elder_held hh0
  have HFR : Hid (∀ wx, Below W.heap.size W wx → Nums wx fa s.free) := fun wx hx => (HIN.out.below hx).nums
  have HZ5 : Hid (∀ z ∈ [s.t, s.g0, s.g1, s.nx, (s.free.length : Int)], Sml z) := by
    intro z hz
    simp only [List.mem_cons, List.not_mem_nil, or_false] at hz
    rcases hz with rfl | rfl | rfl | rfl | rfl
    · exact hm.t
    · exact hm.g0
    · exact hm.g1
    · exact hm.nx
    · exact ⟨by omega, by omega⟩
  have HZ1 : Hid (∀ z ∈ [(s.es.length : Int)], Sml z) := by
    intro z hz
    rw [List.mem_singleton.1 hz]
    exact ⟨by omega, by omega⟩
  have n5 := numsL_length [s.t, s.g0, s.g1, s.nx, (s.free.length : Int)]
  have nf := numsL_length s.free
  have n1 := numsL_length [(s.es.length : Int)]
  simp only [List.length_cons, List.length_nil] at n5 n1
  have hb1 : ¬ 9223372036854775807 < (numsL [s.t, s.g0, s.g1, s.nx, (s.free.length : Int)]).length + (numsL s.free).length := by omega
  have hb2 : ¬ 9223372036854775807 < (numsL [s.t, s.g0, s.g1, s.nx, (s.free.length : Int)]).length + (numsL s.free).length + (numsL [(s.es.length : Int)]).length := by omega
  obtain ⟨l0, hl0⟩ : ∃ l0, numsL [s.t, s.g0, s.g1, s.nx, (s.free.length : Int)] ++ (numsL s.free ++ numsL [(s.es.length : Int)]) = l0 := ⟨_, rfl⟩
  have hll0 : l0.length ≤ 100000 := by rw [← hl0, List.length_append, List.length_append]; omega
  have HL0 := hid hl0
  clear h hm hbW hh0
  go_enter Tryz.func42, Tryz.ntmps42
  go_wp2_with fail
  go_cut [3] (fun r wx => r = .string ⟨l0.toArray⟩ ∧ Hid (Below W.heap.size W wx))
  case first =>
    refine wp_region_noPanic ?_
    refine wp_region_till (S := fun w' : World => Below W.heap.size W w') 25 (by kernel_rfl) (Below.refl _ _).drew (fun hHeld => ?_)
    obtain ⟨w0, hw0⟩ : ∃ x, W.drew = x := ⟨_, rfl⟩
    rw [hw0] at hHeld ⊢
    have HSw0 : Below W.heap.size W w0 := hHeld
    clear hHeld hw0 hl0 hll0
    refine wpTill_take (i := 0) [0, 1, 13, 14, 17, 18, 23, 24, 25] (v := ?_) rfl (by kernel_rfl) (by kernel_rfl) (by kernel_rfl) (by kernel_rfl) (fun _ _ _ h => h) (Or.inl ⟨by kernel_rfl, ?_⟩) (by assumption) ?_
    rotate_left
    · intro w' hSw
      go_simp
      all_goals with_reducible rfl
    simp only [Act.put]
    refine wpTill_take (i := 1) [1, 13, 14, 17, 18, 23, 24, 25] (v := .int .i64 s.t) rfl (by kernel_rfl) (by kernel_rfl) (by kernel_rfl) (by kernel_rfl) (fun _ _ _ h => h) (Or.inl ⟨by kernel_rfl, ?_⟩) (by assumption) ?_
    · intro w' hSw
      have e0 := a0 w' hSw
      clear a0 a1 a2 a3 a4 a5 hSw
      go_simp
      all_goals with_reducible rfl
    simp only [Act.put]
    refine wpTill_take (i := 2) [2, 3, 4, 13, 14, 17, 18, 23, 24, 25] (v := ?_) rfl (by kernel_rfl) (by kernel_rfl) (by kernel_rfl) (by kernel_rfl) (fun _ _ _ h => h) (Or.inl ⟨by kernel_rfl, ?_⟩) (by assumption) ?_
    rotate_left
    · intro w' hSw
      go_simp
      all_goals with_reducible rfl
    simp only [Act.put]
    refine wpTill_take (i := 3) [3, 4, 13, 14, 17, 18, 23, 24, 25] (v := ?_) rfl (by kernel_rfl) (by kernel_rfl) (by kernel_rfl) (by kernel_rfl) (fun _ _ _ h => h) (Or.inl ⟨by kernel_rfl, ?_⟩) (by assumption) ?_
    rotate_left
    · intro w' hSw
      go_simp
      all_goals with_reducible rfl
    simp only [Act.put]
    refine wpTill_take (i := 4) [4, 13, 14, 17, 18, 23, 24, 25] (v := .int .i64 s.g0) rfl (by kernel_rfl) (by kernel_rfl) (by kernel_rfl) (by kernel_rfl) (fun _ _ _ h => h) (Or.inl ⟨by kernel_rfl, ?_⟩) (by assumption) ?_
    · intro w' hSw
      have e0 := a1 w' hSw
      clear a0 a1 a2 a3 a4 a5 hSw
      go_simp
      all_goals with_reducible rfl
    simp only [Act.put]
    refine wpTill_take (i := 5) [5, 6, 7, 13, 14, 17, 18, 23, 24, 25] (v := ?_) rfl (by kernel_rfl) (by kernel_rfl) (by kernel_rfl) (by kernel_rfl) (fun _ _ _ h => h) (Or.inl ⟨by kernel_rfl, ?_⟩) (by assumption) ?_
    rotate_left
    · intro w' hSw
      go_simp
      all_goals with_reducible rfl
    simp only [Act.put]
    refine wpTill_take (i := 6) [6, 7, 13, 14, 17, 18, 23, 24, 25] (v := ?_) rfl (by kernel_rfl) (by kernel_rfl) (by kernel_rfl) (by kernel_rfl) (fun _ _ _ h => h) (Or.inl ⟨by kernel_rfl, ?_⟩) (by assumption) ?_
    rotate_left
    · intro w' hSw
      go_simp
      all_goals with_reducible rfl
    simp only [Act.put]
    refine wpTill_take (i := 7) [7, 13, 14, 17, 18, 23, 24, 25] (v := .int .i64 s.g1) rfl (by kernel_rfl) (by kernel_rfl) (by kernel_rfl) (by kernel_rfl) (fun _ _ _ h => h) (Or.inl ⟨by kernel_rfl, ?_⟩) (by assumption) ?_
    · intro w' hSw
      have e0 := a2 w' hSw
      clear a0 a1 a2 a3 a4 a5 hSw
      go_simp
      all_goals with_reducible rfl
    simp only [Act.put]
    refine wpTill_take (i := 8) [8, 9, 13, 14, 17, 18, 23, 24, 25] (v := ?_) rfl (by kernel_rfl) (by kernel_rfl) (by kernel_rfl) (by kernel_rfl) (fun _ _ _ h => h) (Or.inl ⟨by kernel_rfl, ?_⟩) (by assumption) ?_
    rotate_left
    · intro w' hSw
      go_simp
      all_goals with_reducible rfl
    simp only [Act.put]
    refine wpTill_take (i := 9) [9, 13, 14, 17, 18, 23, 24, 25] (v := .int .i64 s.nx) rfl (by kernel_rfl) (by kernel_rfl) (by kernel_rfl) (by kernel_rfl) (fun _ _ _ h => h) (Or.inl ⟨by kernel_rfl, ?_⟩) (by assumption) ?_
    · intro w' hSw
      have e0 := a3 w' hSw
      clear a0 a1 a2 a3 a4 a5 hSw
      go_simp
      all_goals with_reducible rfl
    simp only [Act.put]
    refine wpTill_take (i := 10) [10, 11, 12, 13, 14, 17, 18, 23, 24, 25] (v := ?_) rfl (by kernel_rfl) (by kernel_rfl) (by kernel_rfl) (by kernel_rfl) (fun _ _ _ h => h) (Or.inl ⟨by kernel_rfl, ?_⟩) (by assumption) ?_
    rotate_left
    · intro w' hSw
      go_simp
      all_goals with_reducible rfl
    simp only [Act.put]
    refine wpTill_take (i := 11) [11, 12, 13, 14, 17, 18, 23, 24, 25] (v := .slice fa s.free.length fc) rfl (by kernel_rfl) (by kernel_rfl) (by kernel_rfl) (by kernel_rfl) (fun _ _ _ h => h) (Or.inl ⟨by kernel_rfl, ?_⟩) (by assumption) ?_
    · intro w' hSw
      have e0 := a4 w' hSw
      clear a0 a1 a2 a3 a4 a5 hSw
      go_simp
      all_goals with_reducible rfl
    simp only [Act.put]
    refine wpTill_take (i := 12) [12, 13, 14, 17, 18, 23, 24, 25] (v := ?_) rfl (by kernel_rfl) (by kernel_rfl) (by kernel_rfl) (by kernel_rfl) (fun _ _ _ h => h) (Or.inl ⟨by kernel_rfl, ?_⟩) (by assumption) ?_
    rotate_left
    · intro w' hSw
      go_simp
      all_goals with_reducible rfl
    simp only [Act.put]
    refine wpTill_take (i := 15) [15, 16, 17, 18, 23, 24, 25] (v := ?_) rfl (by kernel_rfl) (by kernel_rfl) (by kernel_rfl) (by kernel_rfl) (fun _ _ _ h => h) (Or.inl ⟨by kernel_rfl, ?_⟩) (by assumption) ?_
    rotate_left
    · intro w' hSw
      go_simp
      all_goals with_reducible rfl
    simp only [Act.put]
    refine wpTill_take (i := 16) [16, 17, 18, 23, 24, 25] (v := .slice fa s.free.length fc) rfl (by kernel_rfl) (by kernel_rfl) (by kernel_rfl) (by kernel_rfl) (fun _ _ _ h => h) (Or.inl ⟨by kernel_rfl, ?_⟩) (by assumption) ?_
    · intro w' hSw
      have e0 := a4 w' hSw
      clear a0 a1 a2 a3 a4 a5 hSw
      go_simp
      all_goals with_reducible rfl
    simp only [Act.put]
    refine wpTill_take (i := 19) [19, 20, 21, 22, 23, 24, 25] (v := ?_) rfl (by kernel_rfl) (by kernel_rfl) (by kernel_rfl) (by kernel_rfl) (fun _ _ _ h => h) (Or.inl ⟨by kernel_rfl, ?_⟩) (by assumption) ?_
    rotate_left
    · intro w' hSw
      go_simp
      all_goals with_reducible rfl
    simp only [Act.put]
    refine wpTill_take (i := 20) [20, 21, 22, 23, 24, 25] (v := .slice ea s.es.length ec) rfl (by kernel_rfl) (by kernel_rfl) (by kernel_rfl) (by kernel_rfl) (fun _ _ _ h => h) (Or.inl ⟨by kernel_rfl, ?_⟩) (by assumption) ?_
    · intro w' hSw
      have e0 := a5 w' hSw
      clear a0 a1 a2 a3 a4 a5 hSw
      go_simp
      all_goals with_reducible rfl
    simp only [Act.put]
    refine wpTill_take (i := 21) [21, 22, 23, 24, 25] (v := ?_) rfl (by kernel_rfl) (by kernel_rfl) (by kernel_rfl) (by kernel_rfl) (fun _ _ _ h => h) (Or.inl ⟨by kernel_rfl, ?_⟩) (by assumption) ?_
    rotate_left
    · intro w' hSw
      go_simp
      all_goals with_reducible rfl
    simp only [Act.put]
    refine wpTill_two (i := 13) (j := 22) (by kernel_rfl) rfl rfl (fun K hK => ?_) (fun K hK => ?_)
    · go_simp
      obtain ⟨v1, hA⟩ : ∃ x, w0.alloc (.cells #[.int .i64 s.t, .int .i64 s.g0, .int .i64 s.g1, .int .i64 s.nx, .int .i64 (s.free.length : Int)] 3) = x := ⟨_, rfl⟩
      have hb : Below w0.heap.size w0 v1 := by rw [← hA]; exact (Below.refl _ _).alloc (Nat.le_refl _) _
      have HSv1 : Below W.heap.size W v1 := HSw0.trans (hb.mono HSw0.size)
      try have HN1 := hid (HN1.out.below hb)
      have HN5 : Hid (Nums v1 (some ⟨w0.heap.size, 0, none⟩) [s.t, s.g0, s.g1, s.nx, (s.free.length : Int)]) := by rw [← hA]; exact nums_five w0 _ _ _ _ _ _
      rw [hA]
      refine hK.out _ _ (fun _ => HSv1) ?_
      clear hb hA
      clear hK K
      refine wpTill_two (i := 14) (j := 22) (by kernel_rfl) rfl rfl (fun K hK => ?_) (fun K hK => ?_)
      · go_simp
        refine (refNums_calls _ 5 [s.t, s.g0, s.g1, s.nx, (s.free.length : Int)] v1 HN5.out HZ5.out (by simp)).mono ?_
        rintro e v2 ⟨rfl, hb⟩
        have HSv2 : Below W.heap.size W v2 := HSv1.trans (hb.mono HSv1.size)
        try have HN5 := hid (HN5.out.below hb)
        try have HN1 := hid (HN1.out.below hb)
        clear hb
        go_wp2_with fail
        refine hK.out _ _ (fun _ => HSv2) ?_
        clear hK K
        refine wpTill_two (i := 17) (j := 22) (by kernel_rfl) rfl rfl (fun K hK => ?_) (fun K hK => ?_)
        · go_simp
          refine (refNums_calls fa fc s.free v2 (HFR.out v2 HSv2) HM.out.fr (by omega)).mono ?_
          rintro e v3 ⟨rfl, hb⟩
          have HSv3 : Below W.heap.size W v3 := HSv2.trans (hb.mono HSv2.size)
          try have HN5 := hid (HN5.out.below hb)
          try have HN1 := hid (HN1.out.below hb)
          clear hb
          go_wp2_with fail
          refine hK.out _ _ (fun _ => HSv3) ?_
          clear hK K
          refine wpTill_take (i := 18) [18, 24, 25] (v := .string ⟨(numsL [s.t, s.g0, s.g1, s.nx, (s.free.length : Int)] ++ numsL s.free).toArray⟩) rfl (by kernel_rfl) (by kernel_rfl) (by kernel_rfl) (by kernel_rfl) (fun _ _ _ h => h) (Or.inl ⟨by kernel_rfl, ?_⟩) (by assumption) ?_
          · intro w' hSw
            clear a0 a1 a2 a3 a4 a5 hSw
            go_simp
            rw [cat]
          simp only [Act.put]
          refine wpTill_one (i := 22) (by kernel_rfl) rfl (fun K hK => ?_)
          go_simp
          obtain ⟨v4, hA⟩ : ∃ x, v3.alloc (.cells #[.int .i64 (s.es.length : Int)] 3) = x := ⟨_, rfl⟩
          have hb : Below v3.heap.size v3 v4 := by rw [← hA]; exact (Below.refl _ _).alloc (Nat.le_refl _) _
          have HSv4 : Below W.heap.size W v4 := HSv3.trans (hb.mono HSv3.size)
          try have HN5 := hid (HN5.out.below hb)
          have HN1 : Hid (Nums v4 (some ⟨v3.heap.size, 0, none⟩) [(s.es.length : Int)]) := by rw [← hA]; exact nums_one v3 _ _
          rw [hA]
          refine hK.out _ _ (fun _ => HSv4) ?_
          clear hb hA
          clear hK K
          refine wpTill_one (i := 23) (by kernel_rfl) rfl (fun K hK => ?_)
          go_simp
          refine (refNums_calls _ 1 [(s.es.length : Int)] v4 HN1.out HZ1.out (by simp)).mono ?_
          rintro e v5 ⟨rfl, hb⟩
          have HSv5 : Below W.heap.size W v5 := HSv4.trans (hb.mono HSv4.size)
          try have HN5 := hid (HN5.out.below hb)
          try have HN1 := hid (HN1.out.below hb)
          clear hb
          go_wp2_with fail
          refine hK.out _ _ (fun _ => HSv5) ?_
          clear hK K
          refine wpTill_take (i := 24) [24, 25] (v := .string ⟨(numsL [s.t, s.g0, s.g1, s.nx, (s.free.length : Int)] ++ (numsL s.free ++ numsL [(s.es.length : Int)])).toArray⟩) rfl (by kernel_rfl) (by kernel_rfl) (by kernel_rfl) (by kernel_rfl) (fun _ _ _ h => h) (Or.inl ⟨by kernel_rfl, ?_⟩) (by assumption) ?_
          · intro w' hSw
            clear a0 a1 a2 a3 a4 a5 hSw
            go_simp
            rw [cat, List.append_assoc]
          simp only [Act.put]
          refine wpTill_one (i := 25) (by kernel_rfl) rfl (fun K hK => ?_)
          go_simp
          refine hK.out _ _ (fun h => absurd rfl h) ?_
          clear hK K
          refine wpTill_done (by kernel_rfl) ?_ _
          refine NoPanic.normal ?_
          go_wp2
          go_meet
          exact ⟨by rw [HL0.out], HSv5⟩
        · go_simp
          obtain ⟨v6, hA⟩ : ∃ x, v2.alloc (.cells #[.int .i64 (s.es.length : Int)] 3) = x := ⟨_, rfl⟩
          have hb : Below v2.heap.size v2 v6 := by rw [← hA]; exact (Below.refl _ _).alloc (Nat.le_refl _) _
          have HSv6 : Below W.heap.size W v6 := HSv2.trans (hb.mono HSv2.size)
          try have HN5 := hid (HN5.out.below hb)
          have HN1 : Hid (Nums v6 (some ⟨v2.heap.size, 0, none⟩) [(s.es.length : Int)]) := by rw [← hA]; exact nums_one v2 _ _
          rw [hA]
          refine hK.out _ _ (fun _ => HSv6) ?_
          clear hb hA
          clear hK K
          refine wpTill_one (i := 17) (by kernel_rfl) rfl (fun K hK => ?_)
          go_simp
          refine (refNums_calls fa fc s.free v6 (HFR.out v6 HSv6) HM.out.fr (by omega)).mono ?_
          rintro e v7 ⟨rfl, hb⟩
          have HSv7 : Below W.heap.size W v7 := HSv6.trans (hb.mono HSv6.size)
          try have HN5 := hid (HN5.out.below hb)
          try have HN1 := hid (HN1.out.below hb)
          clear hb
          go_wp2_with fail
          refine hK.out _ _ (fun _ => HSv7) ?_
          clear hK K
          refine wpTill_take (i := 18) [18, 24, 25] (v := .string ⟨(numsL [s.t, s.g0, s.g1, s.nx, (s.free.length : Int)] ++ numsL s.free).toArray⟩) rfl (by kernel_rfl) (by kernel_rfl) (by kernel_rfl) (by kernel_rfl) (fun _ _ _ h => h) (Or.inl ⟨by kernel_rfl, ?_⟩) (by assumption) ?_
          · intro w' hSw
            clear a0 a1 a2 a3 a4 a5 hSw
            go_simp
            rw [cat]
          simp only [Act.put]
          refine wpTill_one (i := 23) (by kernel_rfl) rfl (fun K hK => ?_)
          go_simp
          refine (refNums_calls _ 1 [(s.es.length : Int)] v7 HN1.out HZ1.out (by simp)).mono ?_
          rintro e v8 ⟨rfl, hb⟩
          have HSv8 : Below W.heap.size W v8 := HSv7.trans (hb.mono HSv7.size)
          try have HN5 := hid (HN5.out.below hb)
          try have HN1 := hid (HN1.out.below hb)
          clear hb
          go_wp2_with fail
          refine hK.out _ _ (fun _ => HSv8) ?_
          clear hK K
          refine wpTill_take (i := 24) [24, 25] (v := .string ⟨(numsL [s.t, s.g0, s.g1, s.nx, (s.free.length : Int)] ++ (numsL s.free ++ numsL [(s.es.length : Int)])).toArray⟩) rfl (by kernel_rfl) (by kernel_rfl) (by kernel_rfl) (by kernel_rfl) (fun _ _ _ h => h) (Or.inl ⟨by kernel_rfl, ?_⟩) (by assumption) ?_
          · intro w' hSw
            clear a0 a1 a2 a3 a4 a5 hSw
            go_simp
            rw [cat, List.append_assoc]
          simp only [Act.put]
          refine wpTill_one (i := 25) (by kernel_rfl) rfl (fun K hK => ?_)
          go_simp
          refine hK.out _ _ (fun h => absurd rfl h) ?_
          clear hK K
          refine wpTill_done (by kernel_rfl) ?_ _
          refine NoPanic.normal ?_
          go_wp2
          go_meet
          exact ⟨by rw [HL0.out], HSv8⟩
      · go_simp
        obtain ⟨v9, hA⟩ : ∃ x, v1.alloc (.cells #[.int .i64 (s.es.length : Int)] 3) = x := ⟨_, rfl⟩
        have hb : Below v1.heap.size v1 v9 := by rw [← hA]; exact (Below.refl _ _).alloc (Nat.le_refl _) _
        have HSv9 : Below W.heap.size W v9 := HSv1.trans (hb.mono HSv1.size)
        try have HN5 := hid (HN5.out.below hb)
        have HN1 : Hid (Nums v9 (some ⟨v1.heap.size, 0, none⟩) [(s.es.length : Int)]) := by rw [← hA]; exact nums_one v1 _ _
        rw [hA]
        refine hK.out _ _ (fun _ => HSv9) ?_
        clear hb hA
        clear hK K
        refine wpTill_one (i := 14) (by kernel_rfl) rfl (fun K hK => ?_)
        go_simp
        refine (refNums_calls _ 5 [s.t, s.g0, s.g1, s.nx, (s.free.length : Int)] v9 HN5.out HZ5.out (by simp)).mono ?_
        rintro e v10 ⟨rfl, hb⟩
        have HSv10 : Below W.heap.size W v10 := HSv9.trans (hb.mono HSv9.size)
        try have HN5 := hid (HN5.out.below hb)
        try have HN1 := hid (HN1.out.below hb)
        clear hb
        go_wp2_with fail
        refine hK.out _ _ (fun _ => HSv10) ?_
        clear hK K
        refine wpTill_one (i := 17) (by kernel_rfl) rfl (fun K hK => ?_)
        go_simp
        refine (refNums_calls fa fc s.free v10 (HFR.out v10 HSv10) HM.out.fr (by omega)).mono ?_
        rintro e v11 ⟨rfl, hb⟩
        have HSv11 : Below W.heap.size W v11 := HSv10.trans (hb.mono HSv10.size)
        try have HN5 := hid (HN5.out.below hb)
        try have HN1 := hid (HN1.out.below hb)
        clear hb
        go_wp2_with fail
        refine hK.out _ _ (fun _ => HSv11) ?_
        clear hK K
        refine wpTill_take (i := 18) [18, 24, 25] (v := .string ⟨(numsL [s.t, s.g0, s.g1, s.nx, (s.free.length : Int)] ++ numsL s.free).toArray⟩) rfl (by kernel_rfl) (by kernel_rfl) (by kernel_rfl) (by kernel_rfl) (fun _ _ _ h => h) (Or.inl ⟨by kernel_rfl, ?_⟩) (by assumption) ?_
        · intro w' hSw
          clear a0 a1 a2 a3 a4 a5 hSw
          go_simp
          rw [cat]
        simp only [Act.put]
        refine wpTill_one (i := 23) (by kernel_rfl) rfl (fun K hK => ?_)
        go_simp
        refine (refNums_calls _ 1 [(s.es.length : Int)] v11 HN1.out HZ1.out (by simp)).mono ?_
        rintro e v12 ⟨rfl, hb⟩
        have HSv12 : Below W.heap.size W v12 := HSv11.trans (hb.mono HSv11.size)
        try have HN5 := hid (HN5.out.below hb)
        try have HN1 := hid (HN1.out.below hb)
        clear hb
        go_wp2_with fail
        refine hK.out _ _ (fun _ => HSv12) ?_
        clear hK K
        refine wpTill_take (i := 24) [24, 25] (v := .string ⟨(numsL [s.t, s.g0, s.g1, s.nx, (s.free.length : Int)] ++ (numsL s.free ++ numsL [(s.es.length : Int)])).toArray⟩) rfl (by kernel_rfl) (by kernel_rfl) (by kernel_rfl) (by kernel_rfl) (fun _ _ _ h => h) (Or.inl ⟨by kernel_rfl, ?_⟩) (by assumption) ?_
        · intro w' hSw
          clear a0 a1 a2 a3 a4 a5 hSw
          go_simp
          rw [cat, List.append_assoc]
        simp only [Act.put]
        refine wpTill_one (i := 25) (by kernel_rfl) rfl (fun K hK => ?_)
        go_simp
        refine hK.out _ _ (fun h => absurd rfl h) ?_
        clear hK K
        refine wpTill_done (by kernel_rfl) ?_ _
        refine NoPanic.normal ?_
        go_wp2
        go_meet
        exact ⟨by rw [HL0.out], HSv12⟩
    · go_simp
      obtain ⟨v13, hA⟩ : ∃ x, w0.alloc (.cells #[.int .i64 (s.es.length : Int)] 3) = x := ⟨_, rfl⟩
      have hb : Below w0.heap.size w0 v13 := by rw [← hA]; exact (Below.refl _ _).alloc (Nat.le_refl _) _
      have HSv13 : Below W.heap.size W v13 := HSw0.trans (hb.mono HSw0.size)
      try have HN5 := hid (HN5.out.below hb)
      have HN1 : Hid (Nums v13 (some ⟨w0.heap.size, 0, none⟩) [(s.es.length : Int)]) := by rw [← hA]; exact nums_one w0 _ _
      rw [hA]
      refine hK.out _ _ (fun _ => HSv13) ?_
      clear hb hA
      clear hK K
      refine wpTill_one (i := 13) (by kernel_rfl) rfl (fun K hK => ?_)
      go_simp
      obtain ⟨v14, hA⟩ : ∃ x, v13.alloc (.cells #[.int .i64 s.t, .int .i64 s.g0, .int .i64 s.g1, .int .i64 s.nx, .int .i64 (s.free.length : Int)] 3) = x := ⟨_, rfl⟩
      have hb : Below v13.heap.size v13 v14 := by rw [← hA]; exact (Below.refl _ _).alloc (Nat.le_refl _) _
      have HSv14 : Below W.heap.size W v14 := HSv13.trans (hb.mono HSv13.size)
      try have HN1 := hid (HN1.out.below hb)
      have HN5 : Hid (Nums v14 (some ⟨v13.heap.size, 0, none⟩) [s.t, s.g0, s.g1, s.nx, (s.free.length : Int)]) := by rw [← hA]; exact nums_five v13 _ _ _ _ _ _
      rw [hA]
      refine hK.out _ _ (fun _ => HSv14) ?_
      clear hb hA
      clear hK K
      refine wpTill_one (i := 14) (by kernel_rfl) rfl (fun K hK => ?_)
      go_simp
      refine (refNums_calls _ 5 [s.t, s.g0, s.g1, s.nx, (s.free.length : Int)] v14 HN5.out HZ5.out (by simp)).mono ?_
      rintro e v15 ⟨rfl, hb⟩
      have HSv15 : Below W.heap.size W v15 := HSv14.trans (hb.mono HSv14.size)
      try have HN5 := hid (HN5.out.below hb)
      try have HN1 := hid (HN1.out.below hb)
      clear hb
      go_wp2_with fail
      refine hK.out _ _ (fun _ => HSv15) ?_
      clear hK K
      refine wpTill_one (i := 17) (by kernel_rfl) rfl (fun K hK => ?_)
      go_simp
      refine (refNums_calls fa fc s.free v15 (HFR.out v15 HSv15) HM.out.fr (by omega)).mono ?_
      rintro e v16 ⟨rfl, hb⟩
      have HSv16 : Below W.heap.size W v16 := HSv15.trans (hb.mono HSv15.size)
      try have HN5 := hid (HN5.out.below hb)
      try have HN1 := hid (HN1.out.below hb)
      clear hb
      go_wp2_with fail
      refine hK.out _ _ (fun _ => HSv16) ?_
      clear hK K
      refine wpTill_take (i := 18) [18, 24, 25] (v := .string ⟨(numsL [s.t, s.g0, s.g1, s.nx, (s.free.length : Int)] ++ numsL s.free).toArray⟩) rfl (by kernel_rfl) (by kernel_rfl) (by kernel_rfl) (by kernel_rfl) (fun _ _ _ h => h) (Or.inl ⟨by kernel_rfl, ?_⟩) (by assumption) ?_
      · intro w' hSw
        clear a0 a1 a2 a3 a4 a5 hSw
        go_simp
        rw [cat]
      simp only [Act.put]
      refine wpTill_one (i := 23) (by kernel_rfl) rfl (fun K hK => ?_)
      go_simp
      refine (refNums_calls _ 1 [(s.es.length : Int)] v16 HN1.out HZ1.out (by simp)).mono ?_
      rintro e v17 ⟨rfl, hb⟩
      have HSv17 : Below W.heap.size W v17 := HSv16.trans (hb.mono HSv16.size)
      try have HN5 := hid (HN5.out.below hb)
      try have HN1 := hid (HN1.out.below hb)
      clear hb
      go_wp2_with fail
      refine hK.out _ _ (fun _ => HSv17) ?_
      clear hK K
      refine wpTill_take (i := 24) [24, 25] (v := .string ⟨(numsL [s.t, s.g0, s.g1, s.nx, (s.free.length : Int)] ++ (numsL s.free ++ numsL [(s.es.length : Int)])).toArray⟩) rfl (by kernel_rfl) (by kernel_rfl) (by kernel_rfl) (by kernel_rfl) (fun _ _ _ h => h) (Or.inl ⟨by kernel_rfl, ?_⟩) (by assumption) ?_
      · intro w' hSw
        clear a0 a1 a2 a3 a4 a5 hSw
        go_simp
        rw [cat, List.append_assoc]
      simp only [Act.put]
      refine wpTill_one (i := 25) (by kernel_rfl) rfl (fun K hK => ?_)
      go_simp
      refine hK.out _ _ (fun h => absurd rfl h) ?_
      clear hK K
      refine wpTill_done (by kernel_rfl) ?_ _
      refine NoPanic.normal ?_
      go_wp2
      go_meet
      exact ⟨by rw [HL0.out], HSv17⟩
  case rest =>
    obtain ⟨rfl, HBc⟩ := hcut
    obtain ⟨D, rfl⟩ : ∃ D, D = wc := ⟨_, rfl⟩
    clear a0 a1 a2 a3 a4 a5 hb1 hb2 n5 nf n1 HZ5 HZ1 HFR hl0
    go_wp2_with fail
    go_loopw [3, 4] (fun t i wr => ∃ k : Nat, k ≤ s.es.length ∧ t = .string ⟨(l0 ++ numsL ((s.es.take k).flatMap (normK 10))).toArray⟩ ∧ i = .int .i64 k ∧ Hid (Below W.heap.size W wr)) (fun _ i _ => s.es.length - (intOf i).toNat)
    case atStart => exact ⟨0, Nat.zero_le _, by rw [List.take_zero]; show _ = Value.string ⟨(l0 ++ []).toArray⟩; rw [List.append_nil], rfl, HBc.out⟩
    case round =>
      obtain ⟨k, hk, rfl, rfl, HR⟩ := hrel
      obtain ⟨x0, x1, x2, x3, x4, x5⟩ := elder_cells ((HR.out.block w.heap.size hsw1).trans H0.out)
      by_cases hlt : k < s.es.length
      · have hltz : (k : Int) < (s.es.length : Int) := by omega
        obtain ⟨q, o, rfl, hq, q0, q1, q2, q3, q4, q5, q6, q7, q8, q9⟩ := (HIN.out.below HR.out).rows.ten hlt
        have hN : numsL ((s.es.take (k + 1)).flatMap (normK 10)) = numsL ((s.es.take k).flatMap (normK 10)) ++ numsL (normK 10 (rec s.es k)) := by rw [recs_take hlt, numsL_append]
        have hu : ∀ z ∈ normK 10 (rec s.es k), Sml z := fun z hz => by
          unfold normK at hz
          obtain ⟨j, hj, rfl⟩ := List.mem_map.1 hz
          exact HM.out.es _ (rec_mem hlt) j (List.mem_range.1 hj)
        have hlen : (l0 ++ numsL ((s.es.take k).flatMap (normK 10))).length ≤ 120000 := by
          have h1 := numsL_length ((s.es.take k).flatMap (normK 10))
          rw [flat_norm_length, List.length_take] at h1
          rw [List.length_append]
          omega
        generalize rec s.es k = u at q0 q1 q2 q3 q4 q5 q6 q7 q8 q9 hN hu
        obtain ⟨X, hX⟩ : ∃ X, wr.alloc (.cells (entC u) 119) = X := ⟨_, rfl⟩
        have hbX : Below wr.heap.size wr X := by rw [← hX]; exact (Below.refl _ _).alloc (Nat.le_refl _) _
        have hhX : X.heap[wr.heap.size]? = some (.cells (entC u) 119) := by rw [← hX]; exact heap_alloc_new _ _
        have z0 : X.cell? ⟨wr.heap.size, 0, none⟩ = some (.int .i64 (fld u 0)) := cell_of_row X _ 0 _ _ _ hhX
        have z1 : X.cell? ⟨wr.heap.size, 1, none⟩ = some (.int .i64 (fld u 1)) := cell_of_row X _ 1 _ _ _ hhX
        have z2 : X.cell? ⟨wr.heap.size, 2, none⟩ = some (.int .i64 (fld u 2)) := cell_of_row X _ 2 _ _ _ hhX
        have z3 : X.cell? ⟨wr.heap.size, 3, none⟩ = some (.int .i64 (fld u 3)) := cell_of_row X _ 3 _ _ _ hhX
        have z4 : X.cell? ⟨wr.heap.size, 4, none⟩ = some (.int .i64 (fld u 4)) := cell_of_row X _ 4 _ _ _ hhX
        have z5 : X.cell? ⟨wr.heap.size, 5, none⟩ = some (.int .i64 (fld u 5)) := cell_of_row X _ 5 _ _ _ hhX
        have z6 : X.cell? ⟨wr.heap.size, 6, none⟩ = some (.int .i64 (fld u 6)) := cell_of_row X _ 6 _ _ _ hhX
        have z7 : X.cell? ⟨wr.heap.size, 7, none⟩ = some (.int .i64 (fld u 7)) := cell_of_row X _ 7 _ _ _ hhX
        have z8 : X.cell? ⟨wr.heap.size, 8, none⟩ = some (.int .i64 (fld u 8)) := cell_of_row X _ 8 _ _ _ hhX
        have z9 : X.cell? ⟨wr.heap.size, 9, none⟩ = some (.int .i64 (fld u 9)) := cell_of_row X _ 9 _ _ _ hhX
        have hnl := numsL_length (normK 10 u)
        rw [normK_length] at hnl
        have HPX := hid (refNums_calls _ 10 (normK 10 u) (X.alloc (.cells (entC u) 3)) (nums_ten X u 3) hu (by rw [normK_length]; omega))
        rw [normK_length] at HPX
        have HBX : Hid (Below W.heap.size W X) := HR.out.trans (hbX.mono HR.out.size)
        have HBY : Hid (Below X.heap.size X (X.alloc (.cells (entC u) 3))) := (Below.refl _ _).alloc (Nat.le_refl _) _
        have HN := hid hN
        have hbig : l0.length + (numsL ((s.es.take k).flatMap (normK 10))).length + (numsL (normK 10 u)).length ≤ 1000000 := by rw [List.length_append] at hlen; omega
        clear hbX hhX hN hu hlen HR hnl
        go_wp2_with fail
        refine HPX.out.mono ?_
        rintro e w6 ⟨rfl, hb6⟩
        have HB6 : Hid (Below W.heap.size W w6) := (HBX.out.trans (HBY.out.mono HBX.out.size)).trans (hb6.mono (Nat.le_trans HBX.out.size HBY.out.size))
        clear hb6 HPX z0 z1 z2 z3 z4 z5 z6 z7 z8 z9 q0 q1 q2 q3 q4 q5 q6 q7 q8 q9 hX
        go_wp2
        go_roundw
        case rel => exact ⟨k + 1, by omega, by rw [cat, HN.out, List.append_assoc], by go_num, HB6.out⟩
        case measure => simp [intOf]; omega
      · have hltz : ¬ (k : Int) < (s.es.length : Int) := by omega
        have e : s.es.take k = s.es := List.take_of_length_le (by omega)
        rw [e]
        have HF : Hid (Below w.heap.size w wr) := HBW.out.trans (HR.out.mono (Nat.le_of_lt hsw1))
        clear HR
        go_wp2
        go_ret
        have eN : l0 ++ numsL (s.es.flatMap (normK 10)) = numsL (elderN s) := by
          rw [← HL0.out]
          unfold elderN recsN
          simp only [numsL_append, numsL_cons, numsL_nil, List.append_assoc, List.append_nil]
        rw [eN]
        exact ⟨rfl, HF.out⟩
set_option maxHeartbeats 8000000 in
set_option maxRecDepth 100000 in
theorem newerText_calls (s : St) (ea : Option Addr) (ec : Nat) (w : World) (h : InW w s ea ec) (hm : SmlS 11 s) :
    Calls Tryz.prog 52 #[newerV s.t s.g0 s.g1 s.nx (.slice ea s.es.length ec)] w fun e w' => e = .returned (.string ⟨(numsL (newerN s)).toArray⟩) ∧ Below w.heap.size w w' := by
  obtain ⟨W, hW⟩ : ∃ W, w.alloc (.cells (newerC s.t s.g0 s.g1 s.nx (.slice ea s.es.length ec)) 32) = W := ⟨_, rfl⟩
  have hbW : Below w.heap.size w W := by rw [← hW]; exact (Below.refl _ w).alloc (Nat.le_refl _) _
  have hsW : W.heap.size = w.heap.size + 1 := by rw [← hW]; simp [go_sem]
  have hh0 : W.heap[w.heap.size]? = some (.cells (newerC s.t s.g0 s.g1 s.nx (.slice ea s.es.length ec)) 32) := by rw [← hW]; exact heap_alloc_new _ _
  have hfl := hm.fl
  have hel := hm.el
  have HIN := hid (h.below hbW)
  have HM := hid hm
  have H0 := hid hh0
  have HBW := hid hbW
  have HSW := hid hsW
  have hsw1 : w.heap.size < W.heap.size := by omega
  clear hsW
  obtain ⟨x0, x1, x2, x3, x4, _⟩ := five_cells hh0
  have HZ5 : Hid (∀ z ∈ [s.t, s.g0, s.g1, s.nx, (s.es.length : Int)], Sml z) := by
    intro z hz
    simp only [List.mem_cons, List.not_mem_nil, or_false] at hz
    rcases hz with rfl | rfl | rfl | rfl | rfl
    · exact hm.t
    · exact hm.g0
    · exact hm.g1
    · exact hm.nx
    · exact ⟨by omega, by omega⟩
  have n5 := numsL_length [s.t, s.g0, s.g1, s.nx, (s.es.length : Int)]
  simp only [List.length_cons, List.length_nil] at n5
  obtain ⟨l0, hl0⟩ : ∃ l0, numsL [s.t, s.g0, s.g1, s.nx, (s.es.length : Int)] = l0 := ⟨_, rfl⟩
  have hll0 : l0.length ≤ 100000 := by rw [← hl0]; omega
  have HL0 := hid hl0
  have HNC := hid (refNums_calls _ 5 [s.t, s.g0, s.g1, s.nx, (s.es.length : Int)] (W.alloc (.cells #[.int .i64 s.t, .int .i64 s.g0, .int .i64 s.g1, .int .i64 s.nx, .int .i64 (s.es.length : Int)] 3)) (nums_five W _ _ _ _ _ _) HZ5.out (by simp))
  rw [hl0] at HNC
  have HBA : Hid (Below W.heap.size W (W.alloc (.cells #[.int .i64 s.t, .int .i64 s.g0, .int .i64 s.g1, .int .i64 s.nx, .int .i64 (s.es.length : Int)] 3))) := (Below.refl _ _).alloc (Nat.le_refl _) _
  clear h hm hbW hh0 hl0 n5 HZ5
  go_enter Tryz.func52, Tryz.ntmps52
  go_wp2_with fail
  refine HNC.out.mono ?_
  rintro e w2 ⟨rfl, hb2⟩
  have HBc : Hid (Below W.heap.size W w2) := HBA.out.trans (hb2.mono HBA.out.size)
  clear hb2 HNC x0 x1 x2 x3 x4 hW
  go_wp2_with fail
  go_loopw [3, 4] (fun t i wr => ∃ k : Nat, k ≤ s.es.length ∧ t = .string ⟨(l0 ++ numsL ((s.es.take k).flatMap (normK 11))).toArray⟩ ∧ i = .int .i64 k ∧ Hid (Below W.heap.size W wr)) (fun _ i _ => s.es.length - (intOf i).toNat)
  case atStart => exact ⟨0, Nat.zero_le _, by rw [List.take_zero]; show _ = Value.string ⟨(l0 ++ []).toArray⟩; rw [List.append_nil], rfl, HBc.out⟩
  case round =>
    obtain ⟨k, hk, rfl, rfl, HR⟩ := hrel
    obtain ⟨x0, x1, x2, x3, x4, _⟩ := five_cells ((HR.out.block w.heap.size hsw1).trans H0.out)
    by_cases hlt : k < s.es.length
    · have hltz : (k : Int) < (s.es.length : Int) := by omega
      obtain ⟨q, o, rfl, hq, q0, q1, q2, q3, q4, q5, q6, q7, q8, q9, q10⟩ := (HIN.out.below HR.out).rows.eleven hlt
      have hN : numsL ((s.es.take (k + 1)).flatMap (normK 11)) = numsL ((s.es.take k).flatMap (normK 11)) ++ numsL (normK 11 (rec s.es k)) := by rw [recs_take hlt, numsL_append]
      have hu : ∀ z ∈ normK 11 (rec s.es k), Sml z := fun z hz => by
        unfold normK at hz
        obtain ⟨j, hj, rfl⟩ := List.mem_map.1 hz
        exact HM.out.es _ (rec_mem hlt) j (List.mem_range.1 hj)
      have hlen : (l0 ++ numsL ((s.es.take k).flatMap (normK 11))).length ≤ 120000 := by
        have h1 := numsL_length ((s.es.take k).flatMap (normK 11))
        rw [flat_norm_length, List.length_take] at h1
        rw [List.length_append]
        omega
      generalize rec s.es k = u at q0 q1 q2 q3 q4 q5 q6 q7 q8 q9 q10 hN hu
      obtain ⟨X, hX⟩ : ∃ X, wr.alloc (.cells (unitC u) 121) = X := ⟨_, rfl⟩
      have hbX : Below wr.heap.size wr X := by rw [← hX]; exact (Below.refl _ _).alloc (Nat.le_refl _) _
      have hhX : X.heap[wr.heap.size]? = some (.cells (unitC u) 121) := by rw [← hX]; exact heap_alloc_new _ _
      have z0 : X.cell? ⟨wr.heap.size, 0, none⟩ = some (.int .i64 (fld u 0)) := cell_of_row X _ 0 _ _ _ hhX
      have z1 : X.cell? ⟨wr.heap.size, 1, none⟩ = some (.int .i64 (fld u 1)) := cell_of_row X _ 1 _ _ _ hhX
      have z2 : X.cell? ⟨wr.heap.size, 2, none⟩ = some (.int .i64 (fld u 2)) := cell_of_row X _ 2 _ _ _ hhX
      have z3 : X.cell? ⟨wr.heap.size, 3, none⟩ = some (.int .i64 (fld u 3)) := cell_of_row X _ 3 _ _ _ hhX
      have z4 : X.cell? ⟨wr.heap.size, 4, none⟩ = some (.int .i64 (fld u 4)) := cell_of_row X _ 4 _ _ _ hhX
      have z5 : X.cell? ⟨wr.heap.size, 5, none⟩ = some (.int .i64 (fld u 5)) := cell_of_row X _ 5 _ _ _ hhX
      have z6 : X.cell? ⟨wr.heap.size, 6, none⟩ = some (.int .i64 (fld u 6)) := cell_of_row X _ 6 _ _ _ hhX
      have z7 : X.cell? ⟨wr.heap.size, 7, none⟩ = some (.int .i64 (fld u 7)) := cell_of_row X _ 7 _ _ _ hhX
      have z8 : X.cell? ⟨wr.heap.size, 8, none⟩ = some (.int .i64 (fld u 8)) := cell_of_row X _ 8 _ _ _ hhX
      have z9 : X.cell? ⟨wr.heap.size, 9, none⟩ = some (.int .i64 (fld u 9)) := cell_of_row X _ 9 _ _ _ hhX
      have z10 : X.cell? ⟨wr.heap.size, 10, none⟩ = some (.int .i64 (fld u 10)) := cell_of_row X _ 10 _ _ _ hhX
      have hnl := numsL_length (normK 11 u)
      rw [normK_length] at hnl
      have HPX := hid (refNums_calls _ 11 (normK 11 u) (X.alloc (.cells (unitC u) 3)) (nums_eleven X u 3) hu (by rw [normK_length]; omega))
      rw [normK_length] at HPX
      have HBX : Hid (Below W.heap.size W X) := HR.out.trans (hbX.mono HR.out.size)
      have HBY : Hid (Below X.heap.size X (X.alloc (.cells (unitC u) 3))) := (Below.refl _ _).alloc (Nat.le_refl _) _
      have HN := hid hN
      have hbig : l0.length + (numsL ((s.es.take k).flatMap (normK 11))).length + (numsL (normK 11 u)).length ≤ 1000000 := by rw [List.length_append] at hlen; omega
      clear hbX hhX hN hu hlen HR hnl
      go_wp2_with fail
      refine HPX.out.mono ?_
      rintro e w6 ⟨rfl, hb6⟩
      have HB6 : Hid (Below W.heap.size W w6) := (HBX.out.trans (HBY.out.mono HBX.out.size)).trans (hb6.mono (Nat.le_trans HBX.out.size HBY.out.size))
      clear hb6 HPX z0 z1 z2 z3 z4 z5 z6 z7 z8 z9 z10 q0 q1 q2 q3 q4 q5 q6 q7 q8 q9 q10 hX
      go_wp2
      go_roundw
      case rel => exact ⟨k + 1, by omega, by rw [cat, HN.out, List.append_assoc], by go_num, HB6.out⟩
      case measure => simp [intOf]; omega
    · have hltz : ¬ (k : Int) < (s.es.length : Int) := by omega
      have e : s.es.take k = s.es := List.take_of_length_le (by omega)
      rw [e]
      have HF : Hid (Below w.heap.size w wr) := HBW.out.trans (HR.out.mono (Nat.le_of_lt hsw1))
      clear HR
      go_wp2
      go_ret
      have eN : l0 ++ numsL (s.es.flatMap (normK 11)) = numsL (newerN s) := by
        rw [← HL0.out]
        unfold newerN recsN
        simp only [numsL_append, numsL_cons, numsL_nil, List.append_assoc, List.append_nil]
      rw [eN]
      exact ⟨rfl, HF.out⟩
end Go.Proofs.YtcbalhicaipmlaaGreat
