/- The reference: the text of a reel. -/
import Derived.Test.YtcbalhicaipmlaaGreatSRlA
import Derived.Test.YtcbalhicaipmlaaGreatSSnO
import Derived.Test.YtcbalhicaipmlaaGreatSSnQ
namespace Go.Proofs.YtcbalhicaipmlaaGreat
open Go.RowKit
theorem reel_held {Y : World} {b : Nat} {a0 a1 a2 a3 a4 a5 : Value} (h : Y.heap[b]? = some (.cells #[a0, a1, a2, a3, a4, a5] 35)) :
    (∀ w', Below Y.heap.size Y w' → w'.cell? ⟨b, 0, none⟩ = some a0) ∧ (∀ w', Below Y.heap.size Y w' → w'.cell? ⟨b, 1, none⟩ = some a1) ∧ (∀ w', Below Y.heap.size Y w' → w'.cell? ⟨b, 2, none⟩ = some a2) ∧ (∀ w', Below Y.heap.size Y w' → w'.cell? ⟨b, 3, none⟩ = some a3) ∧ (∀ w', Below Y.heap.size Y w' → w'.cell? ⟨b, 4, none⟩ = some a4) ∧ (∀ w', Below Y.heap.size Y w' → w'.cell? ⟨b, 5, none⟩ = some a5) := by
  have k : ∀ w', Below Y.heap.size Y w' → w'.heap[b]? = some (.cells #[a0, a1, a2, a3, a4, a5] 35) := fun w' hb => (hb.block b (Array.getElem?_eq_some_iff.1 h).1).trans h
  exact ⟨fun w' hb => cell_of_row w' b 0 _ _ _ (k w' hb), fun w' hb => cell_of_row w' b 1 _ _ _ (k w' hb), fun w' hb => cell_of_row w' b 2 _ _ _ (k w' hb), fun w' hb => cell_of_row w' b 3 _ _ _ (k w' hb), fun w' hb => cell_of_row w' b 4 _ _ _ (k w' hb), fun w' hb => cell_of_row w' b 5 _ _ _ (k w' hb)⟩
set_option maxHeartbeats 8000000 in
set_option maxRecDepth 100000 in
theorem reelText_calls (s : St) (ea ta : Option Addr) (ec tc : Nat) (ls : List (List (List Int))) (w : World) (h : InW w s ea ec) (ht : TksN w ta ls) (hm : SmlS 11 s) (hs : ∀ x ∈ ls, ∀ u ∈ x, ∀ j, j < 6 → Sml (fld u j)) (h60 : ls.length ≤ 60) (h8 : ∀ x ∈ ls, x.length ≤ 8) :
    Calls Tryz.prog 20 #[reelV s.t s.g0 s.g1 s.nx (.slice ea s.es.length ec) (.slice ta ls.length tc)] w fun e w' => e = .returned (.string ⟨(numsL (reelN s ls)).toArray⟩) ∧ Below w.heap.size w w' := by
  obtain ⟨W, hW⟩ : ∃ W, w.alloc (.cells (reelC s.t s.g0 s.g1 s.nx (.slice ea s.es.length ec) (.slice ta ls.length tc)) 35) = W := ⟨_, rfl⟩
  have hbW : Below w.heap.size w W := by rw [← hW]; exact (Below.refl _ w).alloc (Nat.le_refl _) _
  have hsW : W.heap.size = w.heap.size + 1 := by rw [← hW]; simp [go_sem]
  have hh0 : W.heap[w.heap.size]? = some (.cells (reelC s.t s.g0 s.g1 s.nx (.slice ea s.es.length ec) (.slice ta ls.length tc)) 35) := by rw [← hW]; exact heap_alloc_new _ _
  have HT := hid (ht.below hbW)
  have HSM := hid hs
  have H8 := hid h8
  have H0 := hid hh0
  have HBW := hid hbW
  have hsw1 : w.heap.size < W.heap.size := by omega
  have HET : Hid (∀ wx, Below W.heap.size W wx → Calls Tryz.prog 52 #[newerV s.t s.g0 s.g1 s.nx (.slice ea s.es.length ec)] wx fun e w' => e = .returned (.string ⟨(numsL (newerN s)).toArray⟩) ∧ Below wx.heap.size wx w') := fun wx hx => newerText_calls s ea ec wx ((h.below hbW).below hx) hm
  obtain ⟨a0, a1, a2, a3, a4, a5⟩ := reel_held hh0
  have HZ1 : Hid (∀ z ∈ [(ls.length : Int)], Sml z) := by
    intro z hz
    rw [List.mem_singleton.1 hz]
    exact ⟨by omega, by omega⟩
  have n5 := newerN_len9 hm
  have n1 := numsL_length [(ls.length : Int)]
  simp only [List.length_cons, List.length_nil] at n1
  have hb1 : ¬ 9223372036854775807 < (numsL (newerN s)).length + (numsL [(ls.length : Int)]).length := by omega
  obtain ⟨l0, hl0⟩ : ∃ l0, numsL (newerN s) ++ numsL [(ls.length : Int)] = l0 := ⟨_, rfl⟩
  have hll0 : l0.length ≤ 10000 := by rw [← hl0, List.length_append]; omega
  have HL0 := hid hl0
  clear h ht hm hs h8 hbW hsW hh0
  go_enter Tryz.func20, Tryz.ntmps20
  go_wp2_with fail
  go_cut [3] (fun r wx => r = .string ⟨l0.toArray⟩ ∧ Hid (Below W.heap.size W wx))
  case first =>
    refine wp_region_noPanic ?_
    refine wp_region_till (S := fun w' : World => Below W.heap.size W w') 9 (by kernel_rfl) (Below.refl _ _).drew (fun hHeld => ?_)
    obtain ⟨w0, hw0⟩ : ∃ x, W.drew = x := ⟨_, rfl⟩
    rw [hw0] at hHeld ⊢
    have HSw0 : Below W.heap.size W w0 := hHeld
    clear hHeld hw0 hl0 hll0
    refine wpTill_take (i := 0) [0, 1, 2, 7, 8, 9] (v := ?_) rfl (by kernel_rfl) (by kernel_rfl) (by kernel_rfl) (by kernel_rfl) (fun _ _ _ h => h) (Or.inl ⟨by kernel_rfl, ?_⟩) (by assumption) ?_
    rotate_left
    · intro w' hSw
      go_simp
      all_goals with_reducible rfl
    simp only [Act.put]
    refine wpTill_take (i := 1) [1, 2, 7, 8, 9] (v := newerV s.t s.g0 s.g1 s.nx (.slice ea s.es.length ec)) rfl (by kernel_rfl) (by kernel_rfl) (by kernel_rfl) (by kernel_rfl) (fun _ _ _ h => h) (Or.inl ⟨by kernel_rfl, ?_⟩) (by assumption) ?_
    · intro w' hSw
      have e0 := a0 w' hSw
      have e1 := a1 w' hSw
      have e2 := a2 w' hSw
      have e3 := a3 w' hSw
      have e4 := a4 w' hSw
      clear a0 a1 a2 a3 a4 a5 hSw
      go_simp
      all_goals with_reducible rfl
    simp only [Act.put]
    refine wpTill_take (i := 3) [3, 4, 5, 6, 7, 8, 9] (v := ?_) rfl (by kernel_rfl) (by kernel_rfl) (by kernel_rfl) (by kernel_rfl) (fun _ _ _ h => h) (Or.inl ⟨by kernel_rfl, ?_⟩) (by assumption) ?_
    rotate_left
    · intro w' hSw
      go_simp
      all_goals with_reducible rfl
    simp only [Act.put]
    refine wpTill_take (i := 4) [4, 5, 6, 7, 8, 9] (v := .slice ta ls.length tc) rfl (by kernel_rfl) (by kernel_rfl) (by kernel_rfl) (by kernel_rfl) (fun _ _ _ h => h) (Or.inl ⟨by kernel_rfl, ?_⟩) (by assumption) ?_
    · intro w' hSw
      have e0 := a5 w' hSw
      clear a0 a1 a2 a3 a4 a5 hSw
      go_simp
      all_goals with_reducible rfl
    simp only [Act.put]
    refine wpTill_take (i := 5) [5, 6, 7, 8, 9] (v := ?_) rfl (by kernel_rfl) (by kernel_rfl) (by kernel_rfl) (by kernel_rfl) (fun _ _ _ h => h) (Or.inl ⟨by kernel_rfl, ?_⟩) (by assumption) ?_
    rotate_left
    · intro w' hSw
      go_simp
      all_goals with_reducible rfl
    simp only [Act.put]
    refine wpTill_two (i := 2) (j := 6) (by kernel_rfl) rfl rfl (fun K hK => ?_) (fun K hK => ?_)
    · go_simp
      refine (HET.out w0 HSw0).mono ?_
      rintro e v1 ⟨rfl, hb⟩
      have HSv1 : Below W.heap.size W v1 := HSw0.trans (hb.mono HSw0.size)
      try have HN1 := hid (HN1.out.below hb)
      clear hb
      go_wp2_with fail
      refine hK.out _ _ (fun _ => HSv1) ?_
      clear hK K
      refine wpTill_one (i := 6) (by kernel_rfl) rfl (fun K hK => ?_)
      go_simp
      obtain ⟨v2, hA⟩ : ∃ x, v1.alloc (.cells #[.int .i64 (ls.length : Int)] 3) = x := ⟨_, rfl⟩
      have hb : Below v1.heap.size v1 v2 := by rw [← hA]; exact (Below.refl _ _).alloc (Nat.le_refl _) _
      have HSv2 : Below W.heap.size W v2 := HSv1.trans (hb.mono HSv1.size)
      have HN1 : Hid (Nums v2 (some ⟨v1.heap.size, 0, none⟩) [(ls.length : Int)]) := by rw [← hA]; exact nums_one v1 _ _
      rw [hA]
      refine hK.out _ _ (fun _ => HSv2) ?_
      clear hb hA
      clear hK K
      refine wpTill_one (i := 7) (by kernel_rfl) rfl (fun K hK => ?_)
      go_simp
      refine (refNums_calls _ 1 [(ls.length : Int)] v2 HN1.out HZ1.out (by simp)).mono ?_
      rintro e v3 ⟨rfl, hb⟩
      have HSv3 : Below W.heap.size W v3 := HSv2.trans (hb.mono HSv2.size)
      clear hb
      go_wp2_with fail
      refine hK.out _ _ (fun _ => HSv3) ?_
      clear hK K
      refine wpTill_take (i := 8) [8, 9] (v := .string ⟨(numsL (newerN s) ++ numsL [(ls.length : Int)]).toArray⟩) rfl (by kernel_rfl) (by kernel_rfl) (by kernel_rfl) (by kernel_rfl) (fun _ _ _ h => h) (Or.inl ⟨by kernel_rfl, ?_⟩) (by assumption) ?_
      · intro w' hSw
        clear a0 a1 a2 a3 a4 a5 hSw
        go_simp
        rw [cat]
      simp only [Act.put]
      refine wpTill_one (i := 9) (by kernel_rfl) rfl (fun K hK => ?_)
      go_simp
      refine hK.out _ _ (fun h => absurd rfl h) ?_
      clear hK K
      refine wpTill_done (by kernel_rfl) ?_ _
      refine NoPanic.normal ?_
      go_wp2
      go_meet
      exact ⟨by rw [HL0.out], HSv3⟩
    · go_simp
      obtain ⟨v4, hA⟩ : ∃ x, w0.alloc (.cells #[.int .i64 (ls.length : Int)] 3) = x := ⟨_, rfl⟩
      have hb : Below w0.heap.size w0 v4 := by rw [← hA]; exact (Below.refl _ _).alloc (Nat.le_refl _) _
      have HSv4 : Below W.heap.size W v4 := HSw0.trans (hb.mono HSw0.size)
      have HN1 : Hid (Nums v4 (some ⟨w0.heap.size, 0, none⟩) [(ls.length : Int)]) := by rw [← hA]; exact nums_one w0 _ _
      rw [hA]
      refine hK.out _ _ (fun _ => HSv4) ?_
      clear hb hA
      clear hK K
      refine wpTill_one (i := 2) (by kernel_rfl) rfl (fun K hK => ?_)
      go_simp
      refine (HET.out v4 HSv4).mono ?_
      rintro e v5 ⟨rfl, hb⟩
      have HSv5 : Below W.heap.size W v5 := HSv4.trans (hb.mono HSv4.size)
      try have HN1 := hid (HN1.out.below hb)
      clear hb
      go_wp2_with fail
      refine hK.out _ _ (fun _ => HSv5) ?_
      clear hK K
      refine wpTill_one (i := 7) (by kernel_rfl) rfl (fun K hK => ?_)
      go_simp
      refine (refNums_calls _ 1 [(ls.length : Int)] v5 HN1.out HZ1.out (by simp)).mono ?_
      rintro e v6 ⟨rfl, hb⟩
      have HSv6 : Below W.heap.size W v6 := HSv5.trans (hb.mono HSv5.size)
      clear hb
      go_wp2_with fail
      refine hK.out _ _ (fun _ => HSv6) ?_
      clear hK K
      refine wpTill_take (i := 8) [8, 9] (v := .string ⟨(numsL (newerN s) ++ numsL [(ls.length : Int)]).toArray⟩) rfl (by kernel_rfl) (by kernel_rfl) (by kernel_rfl) (by kernel_rfl) (fun _ _ _ h => h) (Or.inl ⟨by kernel_rfl, ?_⟩) (by assumption) ?_
      · intro w' hSw
        clear a0 a1 a2 a3 a4 a5 hSw
        go_simp
        rw [cat]
      simp only [Act.put]
      refine wpTill_one (i := 9) (by kernel_rfl) rfl (fun K hK => ?_)
      go_simp
      refine hK.out _ _ (fun h => absurd rfl h) ?_
      clear hK K
      refine wpTill_done (by kernel_rfl) ?_ _
      refine NoPanic.normal ?_
      go_wp2
      go_meet
      exact ⟨by rw [HL0.out], HSv6⟩
  case rest =>
    obtain ⟨rfl, HBc⟩ := hcut
    clear a0 a1 a2 a3 a4 a5 hb1 n5 n1 HZ1 HET hl0
    go_wp2_with fail
    go_loopw [3, 4] (fun t i wr => ∃ k : Nat, k ≤ ls.length ∧ t = .string ⟨(l0 ++ numsL ((ls.take k).flatMap (recsN 6))).toArray⟩ ∧ i = .int .i64 k ∧ Hid (Below W.heap.size W wr)) (fun _ i _ => ls.length - (intOf i).toNat)
    case atStart => exact ⟨0, Nat.zero_le _, by rw [List.take_zero]; show _ = Value.string ⟨(l0 ++ []).toArray⟩; rw [List.append_nil], rfl, HBc.out⟩
    case round =>
      clear HBc
      obtain ⟨k, hk, rfl, rfl, HR⟩ := hrel
      obtain ⟨x0, x1, x2, x3, x4, x5⟩ := reel_cellsS ((HR.out.block w.heap.size hsw1).trans H0.out)
      by_cases hlt : k < ls.length
      · have hltz : (k : Int) < (ls.length : Int) := by omega
        obtain ⟨b, o, la, lc, rfl, hca⟩ := tksN_held HT.out hlt
        have hl8 : (ls.getD k []).length ≤ 8 := H8.out _ (getD_mem hlt [])
        have hsm : ∀ u ∈ ls.getD k [], ∀ j, j < 6 → Sml (fld u j) := HSM.out _ (getD_mem hlt [])
        have HNX : Hid (numsL ((ls.take (k + 1)).flatMap (recsN 6)) = numsL ((ls.take k).flatMap (recsN 6)) ++ (numsL [((ls.getD k []).length : Int)] ++ numsL ((ls.getD k []).flatMap (normK 6)))) := by
          show _ = _
          rw [ticks_take hlt, numsL_append]
          unfold recsN
          rw [numsL_cons, numsL_one]
        have hpl : (numsL ((ls.take k).flatMap (recsN 6))).length ≤ 50000 := by
          have h1 := numsL_length ((ls.take k).flatMap (recsN 6))
          have h2 := ticks_len (k := 6) (ls.take k) (fun x hx => H8.out x (List.mem_of_mem_take hx))
          rw [List.length_take] at h2
          have h3 : (1 + 6 * 8) * min k ls.length ≤ 57 * 60 := Nat.mul_le_mul (by omega) (by omega)
          omega
        have HCA := hid hca
        have HS8 := hid hsm
        generalize ls.getD k [] = l at HCA HS8 hl8 HNX
        have c1 := (HCA.out wr HR.out).1
        generalize numsL ((ls.take k).flatMap (recsN 6)) = pre at hpl HNX
        have HPX := hid (refNums_calls (some ⟨wr.heap.size, 0, none⟩) 1 [(l.length : Int)] (wr.alloc (.cells #[.int .i64 (l.length : Int)] 3)) (nums_one wr _ _) (fun z hz => by rw [List.mem_singleton.1 hz]; exact ⟨by omega, by omega⟩) (by simp))
        have HBY : Hid (Below wr.heap.size wr (wr.alloc (.cells #[.int .i64 (l.length : Int)] 3))) := (Below.refl _ _).alloc (Nat.le_refl _) _
        have h1l := numsL_length [(l.length : Int)]
        simp only [List.length_cons, List.length_nil] at h1l
        have hbig : l0.length + pre.length + (numsL [(l.length : Int)]).length ≤ 1000000 := by omega
        obtain ⟨l1, hl1⟩ : ∃ l1, numsL [(l.length : Int)] = l1 := ⟨_, rfl⟩
        rw [hl1] at HNX HPX h1l hbig
        clear hca hsm hl1
        go_wp2_with fail
        refine HPX.out.mono ?_
        rintro e w6 ⟨rfl, hb6⟩
        have HB6 : Hid (Below W.heap.size W w6) := (HR.out.trans (HBY.out.mono HR.out.size)).trans (hb6.mono (Nat.le_trans HR.out.size HBY.out.size))
        clear hb6 HPX HBY c1 x0 x1 x2 x3 x4 x5
        go_wp2_with fail
        go_loopw [3, 5] (fun t i wr => ∃ n : Nat, n ≤ l.length ∧ t = .string ⟨(l0 ++ (pre ++ (l1 ++ numsL ((l.take n).flatMap (normK 6))))).toArray⟩ ∧ i = .int .i64 n ∧ Hid (Below W.heap.size W wr)) (fun _ i _ => l.length - (intOf i).toNat)
        case atStart => exact ⟨0, Nat.zero_le _, by rw [List.take_zero, cat]; show _ = Value.string ⟨(l0 ++ (pre ++ (l1 ++ []))).toArray⟩; rw [List.append_nil, List.append_assoc], rfl, HB6.out⟩
        case round =>
          clear HB6 HR
          obtain ⟨n, hn2, rfl, rfl, HR⟩ := hrel
          obtain ⟨x0, x1, x2, x3, x4, x5⟩ := reel_cellsS ((HR.out.block w.heap.size hsw1).trans H0.out)
          obtain ⟨c1, r1⟩ := HCA.out wr HR.out
          by_cases hnl : n < l.length
          · have hnz : (n : Int) < (l.length : Int) := by omega
            obtain ⟨b3, o3, rfl, hmm⟩ := r1.at hnl
            have q0 : wr.cell? ⟨b3, o3 + n * 6, none⟩ = some (.int .i64 (fld (rec l n) 0)) := hmm 0 (by omega)
            have q1 := hmm 1 (by omega)
            have q2 := hmm 2 (by omega)
            have q3 := hmm 3 (by omega)
            have q4 := hmm 4 (by omega)
            have q5 := hmm 5 (by omega)
            have hN : numsL ((l.take (n + 1)).flatMap (normK 6)) = numsL ((l.take n).flatMap (normK 6)) ++ numsL (normK 6 (rec l n)) := by rw [recs_take hnl, numsL_append]
            have hu : ∀ z ∈ normK 6 (rec l n), Sml z := fun z hz => by
              unfold normK at hz
              obtain ⟨j, hj, rfl⟩ := List.mem_map.1 hz
              exact HS8.out _ (rec_mem hnl) j (List.mem_range.1 hj)
            have hlen : (numsL ((l.take n).flatMap (normK 6))).length ≤ 5000 := by
              have h1 := numsL_length ((l.take n).flatMap (normK 6))
              rw [flat_norm_length, List.length_take] at h1
              omega
            generalize rec l n = u at q0 q1 q2 q3 q4 q5 hN hu
            obtain ⟨X, hX⟩ : ∃ X, wr.alloc (.cells (ordC u) 102) = X := ⟨_, rfl⟩
            have hbX : Below wr.heap.size wr X := by rw [← hX]; exact (Below.refl _ _).alloc (Nat.le_refl _) _
            have hhX : X.heap[wr.heap.size]? = some (.cells (ordC u) 102) := by rw [← hX]; exact heap_alloc_new _ _
            have z0 : X.cell? ⟨wr.heap.size, 0, none⟩ = some (.int .i64 (fld u 0)) := cell_of_row X _ 0 _ _ _ hhX
            have z1 : X.cell? ⟨wr.heap.size, 1, none⟩ = some (.int .i64 (fld u 1)) := cell_of_row X _ 1 _ _ _ hhX
            have z2 : X.cell? ⟨wr.heap.size, 2, none⟩ = some (.int .i64 (fld u 2)) := cell_of_row X _ 2 _ _ _ hhX
            have z3 : X.cell? ⟨wr.heap.size, 3, none⟩ = some (.int .i64 (fld u 3)) := cell_of_row X _ 3 _ _ _ hhX
            have z4 : X.cell? ⟨wr.heap.size, 4, none⟩ = some (.int .i64 (fld u 4)) := cell_of_row X _ 4 _ _ _ hhX
            have z5 : X.cell? ⟨wr.heap.size, 5, none⟩ = some (.int .i64 (fld u 5)) := cell_of_row X _ 5 _ _ _ hhX
            have hnl2 := numsL_length (normK 6 u)
            rw [normK_length] at hnl2
            have HPX := hid (refNums_calls _ 6 (normK 6 u) (X.alloc (.cells (ordC u) 3)) (nums_sixO X u 3) hu (by rw [normK_length]; omega))
            rw [normK_length] at HPX
            have HBX : Hid (Below W.heap.size W X) := HR.out.trans (hbX.mono HR.out.size)
            have HBY : Hid (Below X.heap.size X (X.alloc (.cells (ordC u) 3))) := (Below.refl _ _).alloc (Nat.le_refl _) _
            have HN := hid hN
            have hbig2 : l0.length + (pre.length + (l1.length + (numsL ((l.take n).flatMap (normK 6))).length)) + (numsL (normK 6 u)).length ≤ 1000000 := by omega
            clear hbX hhX hN hu hlen HR hnl2 hbig hmm r1
            go_wp2_with fail
            refine HPX.out.mono ?_
            rintro e w7 ⟨rfl, hb7⟩
            have HB7 : Hid (Below W.heap.size W w7) := (HBX.out.trans (HBY.out.mono HBX.out.size)).trans (hb7.mono (Nat.le_trans HBX.out.size HBY.out.size))
            clear hb7 HPX z0 z1 z2 z3 z4 z5 q0 q1 q2 q3 q4 q5 hX
            go_wp2
            go_roundw
            case rel => exact ⟨n + 1, by omega, by rw [cat, HN.out, List.append_assoc, List.append_assoc, List.append_assoc], by go_num, HB7.out⟩
            case measure => simp [intOf]; omega
          · have hnz : ¬ (n : Int) < (l.length : Int) := by omega
            have e : l.take n = l := List.take_of_length_le (by omega)
            rw [e]
            clear r1
            go_wp2
            go_roundw
            case rel => exact ⟨k + 1, by omega, by rw [HNX.out], by go_num, HR.out⟩
            case measure => simp [intOf]; omega
      · have hltz : ¬ (k : Int) < (ls.length : Int) := by omega
        have e : ls.take k = ls := List.take_of_length_le (by omega)
        rw [e]
        have HF : Hid (Below w.heap.size w wr) := HBW.out.trans (HR.out.mono (Nat.le_of_lt hsw1))
        clear HR
        go_wp2
        go_ret
        have eN : l0 ++ numsL (ls.flatMap (recsN 6)) = numsL (reelN s ls) := by
          rw [← HL0.out]
          unfold reelN ticksN
          simp only [numsL_append, numsL_cons, numsL_nil, List.append_assoc, List.append_nil]
        rw [eN]
        exact ⟨rfl, HF.out⟩
end Go.Proofs.YtcbalhicaipmlaaGreat
