/- Package snap: an elder state is read. -/
import Derived.Test.YtcbalhicaipmlaaGreatRSnL
import Derived.Test.YtcbalhicaipmlaaGreatREsRA
namespace Go.Proofs.YtcbalhicaipmlaaGreat
open Go.RowKit
set_option maxHeartbeats 8000000 in
set_option maxRecDepth 100000 in
theorem readElder_calls (p : Nat) (r : Rd) (w : World) (h : RdAt p r w) :
    Calls Tryz.prog 54 #[.pointer (some ⟨p, 0, none⟩)] w fun e w' => ∃ fa ea fc ec, e = .returned (elderV r.elder.1.t r.elder.1.g0 r.elder.1.g1 r.elder.1.nx (.slice fa r.elder.1.free.length fc) (.slice ea r.elder.1.es.length ec)) ∧ InE w' r.elder.1 fa ea fc ec ∧ RdAt p r.elder.2 w' ∧ Keep w (some p) w' ∧ Frsh w.heap.size fa ∧ Frsh w.heap.size ea := by
  obtain ⟨W, hW⟩ : ∃ W, (w.alloc (.cells #[.int .i64 0, .int .i64 0, .int .i64 0, .int .i64 0, .slice none 0 0, .slice none 0 0] 26)).alloc (.cells #[.int .i64 0, .int .i64 0, .int .i64 0, .int .i64 0, .slice none 0 0, .slice none 0 0] 26) = W := ⟨_, rfl⟩
  have hbW : Below w.heap.size w W := by rw [← hW]; exact ((Below.refl _ w).alloc (Nat.le_refl _) _).alloc (by simp [go_sem]) _
  have hsW : W.heap.size = w.heap.size + 2 := by rw [← hW]; simp [go_sem]
  have hh0 : W.heap[w.heap.size]? = some (.cells #[.int .i64 0, .int .i64 0, .int .i64 0, .int .i64 0, .slice none 0 0, .slice none 0 0] 26) := by
    rw [← hW, heap_alloc_old _ _ (by simp [go_sem])]
    exact heap_alloc_new w _
  have hh1 : W.heap[w.heap.size + 1]? = some (.cells #[.int .i64 0, .int .i64 0, .int .i64 0, .int .i64 0, .slice none 0 0, .slice none 0 0] 26) := by
    have e : w.heap.size + 1 = (w.alloc (.cells #[.int .i64 0, .int .i64 0, .int .i64 0, .int .i64 0, .slice none 0 0, .slice none 0 0] 26)).heap.size := by simp [go_sem]
    rw [← hW, e]
    exact heap_alloc_new _ _
  have hp := h.lt
  have hM0 : MidR w p 26 #[.int .i64 0, .int .i64 0, .int .i64 0, .int .i64 0, .slice none 0 0, .slice none 0 0] #[.int .i64 0, .int .i64 0, .int .i64 0, .int .i64 0, .slice none 0 0, .slice none 0 0] r W := ⟨h.below hbW, hh1, hh0, (Keep.refl w (some p)).below hbW⟩
  have HC := hid (readHead_calls p r W hM0.rd)
  have HM0 := hid hM0
  have HSW := hid hsW
  obtain ⟨R, hR⟩ : ∃ R, r.many 4 = R := ⟨_, rfl⟩
  rw [hR] at HC
  have HRR := hid hR
  clear h hbW hsW hh0 hh1 hM0 hR
  go_enter Tryz.func54, Tryz.ntmps54
  go_wp2_with fail
  refine HC.out.mono ?_
  rintro e w2 ⟨rfl, h2, k2⟩
  have hM2 := HM0.out.call h2 k2 hp
  obtain ⟨x0, x1, x2, x3, x4, x5⟩ := elder_cells hM2.bx
  have xf := fun j => frozen_of_row w2 (w.heap.size + 1) j _ _ hM2.bx
  obtain ⟨t, ht⟩ : ∃ t, fld R.1 0 = t := ⟨_, rfl⟩
  obtain ⟨g0, hg0⟩ : ∃ t, fld R.1 1 = t := ⟨_, rfl⟩
  obtain ⟨g1, hg1⟩ : ∃ t, fld R.1 2 = t := ⟨_, rfl⟩
  obtain ⟨nx, hnx⟩ : ∃ t, fld R.1 3 = t := ⟨_, rfl⟩
  rw [ht, hg0, hg1, hnx]
  have HT := hid ht
  have HG0 := hid hg0
  have HG1 := hid hg1
  have HNX := hid hnx
  obtain ⟨V, hV⟩ : ∃ V, (((w2.setCell ⟨w.heap.size + 1, 0, none⟩ (.int .i64 t)).setCell ⟨w.heap.size + 1, 1, none⟩ (.int .i64 g0)).setCell ⟨w.heap.size + 1, 2, none⟩ (.int .i64 g1)).setCell ⟨w.heap.size + 1, 3, none⟩ (.int .i64 nx) = V := ⟨_, rfl⟩
  have hMV := hM2.head (c0 := .int .i64 t) (c1 := .int .i64 g0) (c2 := .int .i64 g1) (c3 := .int .i64 nx) hp (head_set6 hM2.bx)
  rw [hV] at hMV
  have hs2 : w.heap.size + 2 ≤ V.heap.size := by
    have h1 := hMV.kp.1.size
    have h2 := (Array.getElem?_eq_some_iff.1 hMV.bx).1
    omega
  have HCN := hid (count_calls p R.2 200 V hMV.rd)
  have HMV := hid hMV
  clear h2 k2 hM2 HC hW HM0 hMV ht hg0 hg1 hnx
  go_wp2_with fail
  refine HCN.out.mono ?_
  rintro e w3 ⟨rfl, h3, k3⟩
  have hM3 := HMV.out.call h3 k3 hp
  obtain ⟨N, hN⟩ : ∃ N : Nat, (R.2.upTo 200).1 = (N : Int) := ⟨(R.2.upTo 200).1.toNat, by have := (upTo_le R.2 (m := 200) (by decide)).1; omega⟩
  have hN200 : N ≤ 200 := by have := (upTo_le R.2 (m := 200) (by decide)).2; omega
  obtain ⟨F, hF⟩ : ∃ F, (R.2.upTo 200).2 = F := ⟨_, rfl⟩
  rw [hN]
  rw [hF] at hM3
  have HN := hid hN
  have HF := hid hF
  have HM3 := hid hM3
  clear h3 k3 HCN HMV hV x0 x1 x2 x3 x4 x5 hN hF hM3 xf
  go_wp2_with fail
  go_loopw [15] (fun i wr => ∃ (k : Nat) (fv : Value), k ≤ N ∧ i = .int .i64 k ∧ Hid (MidR w p 26 #[.int .i64 0, .int .i64 0, .int .i64 0, .int .i64 0, .slice none 0 0, .slice none 0 0] #[.int .i64 t, .int .i64 g0, .int .i64 g1, .int .i64 nx, fv, .slice none 0 0] (F.many k).2 wr ∧ NRow (w.heap.size + 2) wr fv (F.many k).1)) (fun i _ => N - (intOf i).toNat)
  case atStart =>
    have h00 : F.many 0 = ([], F) := rfl
    refine ⟨0, .slice none 0 0, Nat.zero_le _, rfl, hid ?_⟩
    rw [h00]
    exact ⟨HM3.out, World.ownsRow_nil _ _ _ _⟩
  case round =>
    obtain ⟨k, fv, hk, rfl, HR⟩ := hrel
    have HLEN : Hid ((F.many k).1.length = k) := many_length F k
    by_cases hlt : k < N
    · have hltz : (k : Int) < (N : Int) := by omega
      have hrow := HR.out.2
      obtain ⟨fa, fc, rfl, hfl, _, _⟩ := hrow.open
      have hM1 := HR.out.1
      obtain ⟨Z, hZ⟩ : ∃ Z, ((F.many k).2).num = Z := ⟨_, rfl⟩
      have HZ := hid hZ
      have HNX1 : Hid ((F.many (k + 1)).1 = (F.many k).1 ++ [Z.1]) := by
        show _ = _
        rw [many_succ, hZ]
      have HNX2 : Hid ((F.many (k + 1)).2 = Z.2) := by
        show _ = _
        rw [many_succ, hZ]
      have r4 : ∀ w' : World, w'.heap[w.heap.size + 1]? = some (.cells #[.int .i64 t, .int .i64 g0, .int .i64 g1, .int .i64 nx, .slice fa (F.many k).1.length fc, .slice none 0 0] 26) → w'.cell? ⟨w.heap.size + 1, 4, none⟩ = some (.slice fa (F.many k).1.length fc) := fun w' h => cell_of_row w' (w.heap.size + 1) 4 _ _ _ h
      have HMd : Hid (MidR w p 26 #[.int .i64 0, .int .i64 0, .int .i64 0, .int .i64 0, .slice none 0 0, .slice none 0 0] #[.int .i64 t, .int .i64 g0, .int .i64 g1, .int .i64 nx, .slice fa (F.many k).1.length fc, .slice none 0 0] (F.many k).2 wr.drew) := hM1.below (Below.refl _ _).drew
      have HWd : Hid (NRow (w.heap.size + 2) wr.drew (.slice fa (F.many k).1.length fc) (F.many k).1) := hrow
      clear hM1 hrow HR hZ
      go_wp2_with fail
      refine wp_region_noPanic ?_
      refine wp_region_till (S := fun w' : World => w'.heap[w.heap.size + 1]? = some (.cells #[.int .i64 t, .int .i64 g0, .int .i64 g1, .int .i64 nx, .slice fa (F.many k).1.length fc, .slice none 0 0] 26)) 7 (by kernel_rfl) HMd.out.bx (fun hHeld => ?_)
      obtain ⟨w0, hw0⟩ : ∃ x, wr.drew = x := ⟨_, rfl⟩
      rw [hw0] at hHeld HMd HWd ⊢
      have HM1 := HMd
      have HW1 := HWd
      clear HMd HWd hw0
      refine wpTill_take (i := 0) [0, 1, 5, 6, 7] (v := ?_) rfl (by kernel_rfl) (by kernel_rfl) (by kernel_rfl) (by kernel_rfl) (fun _ _ _ h => h) (Or.inl ⟨by kernel_rfl, ?_⟩) (by assumption) ?_
      rotate_left
      · intro w' hSw
        go_simp
        all_goals with_reducible rfl
      simp only [Act.put]
      refine wpTill_take (i := 1) [1, 5, 6, 7] (v := ?_) rfl (by kernel_rfl) (by kernel_rfl) (by kernel_rfl) (by kernel_rfl) (fun _ _ _ h => h) (Or.inl ⟨by kernel_rfl, ?_⟩) (by assumption) ?_
      rotate_left
      · intro w' hSw
        go_simp
        all_goals with_reducible rfl
      simp only [Act.put]
      refine wpTill_take (i := 2) [2, 3, 4, 5, 6, 7] (v := ?_) rfl (by kernel_rfl) (by kernel_rfl) (by kernel_rfl) (by kernel_rfl) (fun _ _ _ h => h) (Or.inl ⟨by kernel_rfl, ?_⟩) (by assumption) ?_
      rotate_left
      · intro w' hSw
        go_simp
        all_goals with_reducible rfl
      simp only [Act.put]
      refine wpTill_one (i := 3) (by kernel_rfl) rfl (fun K hK => ?_)
      go_simp
      refine (readNum_calls p (F.many k).2 w0 HM1.out.rd).mono ?_
      rintro e v1 ⟨rfl, hr5, hk5⟩
      have hM5 := HM1.out.call hr5 hk5 hp
      have hw5 := row_keepP HW1.out hk5 (by omega)
      rw [HZ.out] at hM5 ⊢
      have HM5 := hid hM5
      have HW5 := hid hw5
      have hS5 := hM5.bx
      clear hr5 hk5 hM5 hw5
      go_wp2_with fail
      refine hK.out _ _ (fun _ => hS5) ?_
      clear hK K
      refine wpTill_one (i := 4) (by kernel_rfl) rfl (fun K hK => ?_)
      go_simp
      obtain ⟨v2, hA⟩ : ∃ x, v1.alloc (.cells #[.int .i64 Z.1] 3) = x := ⟨_, rfl⟩
      have hb : Below v1.heap.size v1 v2 := by rw [← hA]; exact (Below.refl _ _).alloc (Nat.le_refl _) _
      have HM6 := hid (HM5.out.below hb)
      have HW6 := hid (row_below HW5.out hb)
      have HX6 : Hid (Nums v2 (some ⟨v1.heap.size, 0, none⟩) [Z.1]) := by rw [← hA]; exact nums_one v1 Z.1 _
      have hS6 := HM6.out.bx
      have hs6 := hb.size
      have hs5 := (Array.getElem?_eq_some_iff.1 hS5).1
      rw [hA]
      refine hK.out _ _ (fun _ => hS6) ?_
      clear hb hA
      clear hK K
      refine wpTill_one (i := 5) (by kernel_rfl) rfl (fun K hK => ?_)
      refine step_nums rfl (.tmp 18) (.tmp 21) rfl (w.heap.size + 2) (.slice fa (F.many k).1.length fc) (F.many k).1 (by simp [Act.eval]) HW6.out (some ⟨v1.heap.size, 0, none⟩) 1 [Z.1] (by simp [Act.eval]) HX6.out (fun h => by cases h) (by rw [HLEN.out]; show k + 1 ≤ 100000; omega) (by omega) ?_
      intro v7 v3 hr7 hg7 _
      have hM7 := HM6.out.grown hg7 (fun q hq => (World.ownsRow.lt HW6.out q hq).1) hp
      have hr7' : NRow (w.heap.size + 2) v3 v7 (F.many (k + 1)).1 := by rw [HNX1.out]; exact hr7
      obtain ⟨va7, vc7, rfl, _, _, _⟩ := hr7'.open
      have HM7 := hid hM7
      have HR7 := hid hr7'
      have hS7 := hM7.bx
      have y4 := cell_of_row v3 (w.heap.size + 1) 4 _ _ _ hS7
      have yf := fun j => frozen_of_row v3 (w.heap.size + 1) j _ _ hS7
      clear hr7 hg7 hM7 hr7'
      refine hK.out _ _ (fun _ => hS7) ?_
      clear hK K
      refine wpTill_take (i := 6) [6, 7] (v := ?_) rfl (by kernel_rfl) (by kernel_rfl) (by kernel_rfl) (by kernel_rfl) (fun _ _ _ h => h) (Or.inl ⟨by kernel_rfl, ?_⟩) (by assumption) ?_
      rotate_left
      · intro w' hSw
        go_simp
        all_goals with_reducible rfl
      simp only [Act.put]
      refine wpTill_one (i := 7) (by kernel_rfl) rfl (fun K hK => ?_)
      go_simp
      refine hK.out _ _ (fun h => absurd rfl h) ?_
      clear hK K
      refine wpTill_done (by kernel_rfl) ?_ _
      refine NoPanic.normal ?_
      have hM8 := HM7.out.set (v := .slice va7 (F.many (k + 1)).1.length vc7) hp (seven_set4 HM7.out.bx)
      have hr8 := row_set HR7.out (row_ne HR7.out hS7 (by decide)) 4 (.slice va7 (F.many (k + 1)).1.length vc7)
      have HM8 := hid hM8
      have HR8 := hid hr8
      clear hM8 hr8 hS7 y4 yf
      go_wp2
      go_roundw
      case rel =>
        refine ⟨k + 1, .slice va7 (F.many (k + 1)).1.length vc7, by omega, by go_num, hid ?_⟩
        rw [HNX2.out]
        exact ⟨HM8.out, HR8.out⟩
      case measure => simp [intOf]; omega
    · have hltz : ¬ (k : Int) < (N : Int) := by omega
      have hkN : k = N := by omega
      subst hkN
      have hrow := HR.out.2
      obtain ⟨fa, fc, rfl, hfl, _, _⟩ := hrow.open
      have hM := HR.out.1
      obtain ⟨G, hG⟩ : ∃ G, F.many k = G := ⟨_, rfl⟩
      rw [hG] at hM hrow hfl
      have HGG : Hid (R.2.row 200 = G) := by
        show _ = _
        unfold Rd.row
        rw [HN.out, HF.out, Int.toNat_natCast]
        exact hG
      have HCN := hid (count_calls p G.2 20 wr hM.rd)
      have HMr := hid hM
      have HROW := hid hrow
      clear HR hM hrow HM3 HLEN hG
      go_wp2_with fail
      refine HCN.out.mono ?_
      rintro e w4 ⟨rfl, h4, k4⟩
      have hM4 := HMr.out.call h4 k4 hp
      have hrow4 := row_keepP HROW.out k4 (by omega)
      obtain ⟨M, hM⟩ : ∃ M : Nat, (G.2.upTo 20).1 = (M : Int) := ⟨(G.2.upTo 20).1.toNat, by have := (upTo_le G.2 (m := 20) (by decide)).1; omega⟩
      have hM20 : M ≤ 20 := by have := (upTo_le G.2 (m := 20) (by decide)).2; omega
      obtain ⟨E, hE⟩ : ∃ E, (G.2.upTo 20).2 = E := ⟨_, rfl⟩
      rw [hM]
      rw [hE] at hM4
      have HMM := hid hM
      have HEE := hid hE
      have HM4 := hid hM4
      have HROW4 : Hid (NRow (w.heap.size + 2) w4 (.slice fa G.1.length fc) G.1) := hrow4
      clear h4 k4 HCN HMr HROW hM hE hM4 hrow4
      go_wp2_with fail
      go_loopw [27] (fun i wr => ∃ (k : Nat) (fv : Value), k ≤ M ∧ i = .int .i64 k ∧ Hid (MidR w p 26 #[.int .i64 0, .int .i64 0, .int .i64 0, .int .i64 0, .slice none 0 0, .slice none 0 0] #[.int .i64 t, .int .i64 g0, .int .i64 g1, .int .i64 nx, .slice fa G.1.length fc, fv] (Rd.recs 10 E k).2 wr ∧ Row (w.heap.size + 2) wr fv (Rd.recs 10 E k).1 ∧ NRow (w.heap.size + 2) wr (.slice fa G.1.length fc) G.1)) (fun i _ => M - (intOf i).toNat)
      case atStart =>
        have h00 : Rd.recs 10 E 0 = ([], E) := rfl
        refine ⟨0, .slice none 0 0, Nat.zero_le _, rfl, hid ?_⟩
        rw [h00]
        exact ⟨HM4.out, World.ownsRow_nil _ _ _ _, HROW4.out⟩
      case round =>
        obtain ⟨k, fv, hk, rfl, HR⟩ := hrel
        have HLEN : Hid ((Rd.recs 10 E k).1.length = k) := recs_length 10 E k
        by_cases hlt : k < M
        · have hltz : (k : Int) < (M : Int) := by omega
          have hrow := HR.out.2.1
          obtain ⟨ea, ec, rfl, hfl, _, _⟩ := hrow.open
          have hM1 := HR.out.1
          obtain ⟨Z, hZ⟩ : ∃ Z, ((Rd.recs 10 E k).2).many 10 = Z := ⟨_, rfl⟩
          have HZ := hid hZ
          have HNX1 : Hid ((Rd.recs 10 E (k + 1)).1 = (Rd.recs 10 E k).1 ++ [Z.1]) := by
            show _ = _
            rw [recs_succ, hZ]
          have HNX2 : Hid ((Rd.recs 10 E (k + 1)).2 = Z.2) := by
            show _ = _
            rw [recs_succ, hZ]
          have r4 : ∀ w' : World, w'.heap[w.heap.size + 1]? = some (.cells #[.int .i64 t, .int .i64 g0, .int .i64 g1, .int .i64 nx, .slice fa G.1.length fc, .slice ea (Rd.recs 10 E k).1.length ec] 26) → w'.cell? ⟨w.heap.size + 1, 5, none⟩ = some (.slice ea (Rd.recs 10 E k).1.length ec) := fun w' h => cell_of_row w' (w.heap.size + 1) 5 _ _ _ h
          have HMd : Hid (MidR w p 26 #[.int .i64 0, .int .i64 0, .int .i64 0, .int .i64 0, .slice none 0 0, .slice none 0 0] #[.int .i64 t, .int .i64 g0, .int .i64 g1, .int .i64 nx, .slice fa G.1.length fc, .slice ea (Rd.recs 10 E k).1.length ec] (Rd.recs 10 E k).2 wr.drew) := hM1.below (Below.refl _ _).drew
          have HWd : Hid (Row (w.heap.size + 2) wr.drew (.slice ea (Rd.recs 10 E k).1.length ec) (Rd.recs 10 E k).1) := hrow
          have HQd : Hid (NRow (w.heap.size + 2) wr.drew (.slice fa G.1.length fc) G.1) := HR.out.2.2
          clear hM1 hrow HR hZ
          go_wp2_with fail
          refine wp_region_noPanic ?_
          refine wp_region_till (S := fun w' : World => w'.heap[w.heap.size + 1]? = some (.cells #[.int .i64 t, .int .i64 g0, .int .i64 g1, .int .i64 nx, .slice fa G.1.length fc, .slice ea (Rd.recs 10 E k).1.length ec] 26)) 7 (by kernel_rfl) HMd.out.bx (fun hHeld => ?_)
          obtain ⟨w0, hw0⟩ : ∃ x, wr.drew = x := ⟨_, rfl⟩
          rw [hw0] at hHeld HMd HWd HQd ⊢
          have HM1 := HMd
          have HW1 := HWd
          clear HMd HWd hw0
          refine wpTill_take (i := 0) [0, 1, 5, 6, 7] (v := ?_) rfl (by kernel_rfl) (by kernel_rfl) (by kernel_rfl) (by kernel_rfl) (fun _ _ _ h => h) (Or.inl ⟨by kernel_rfl, ?_⟩) (by assumption) ?_
          rotate_left
          · intro w' hSw
            go_simp
            all_goals with_reducible rfl
          simp only [Act.put]
          refine wpTill_take (i := 1) [1, 5, 6, 7] (v := ?_) rfl (by kernel_rfl) (by kernel_rfl) (by kernel_rfl) (by kernel_rfl) (fun _ _ _ h => h) (Or.inl ⟨by kernel_rfl, ?_⟩) (by assumption) ?_
          rotate_left
          · intro w' hSw
            go_simp
            all_goals with_reducible rfl
          simp only [Act.put]
          refine wpTill_take (i := 2) [2, 3, 4, 5, 6, 7] (v := ?_) rfl (by kernel_rfl) (by kernel_rfl) (by kernel_rfl) (by kernel_rfl) (fun _ _ _ h => h) (Or.inl ⟨by kernel_rfl, ?_⟩) (by assumption) ?_
          rotate_left
          · intro w' hSw
            go_simp
            all_goals with_reducible rfl
          simp only [Act.put]
          refine wpTill_one (i := 3) (by kernel_rfl) rfl (fun K hK => ?_)
          go_simp
          refine (readEnt_calls p (Rd.recs 10 E k).2 w0 HM1.out.rd).mono ?_
          rintro e v1 ⟨rfl, hr5, hk5⟩
          have hM5 := HM1.out.call hr5 hk5 hp
          have hw5 := row_keepP HW1.out hk5 (by omega)
          rw [HZ.out] at hM5 ⊢
          have HM5 := hid hM5
          have HW5 := hid hw5
          have hS5 := hM5.bx
          have HQ5 := hid (row_keepP HQd.out hk5 (by omega))
          clear hr5 hk5 hM5 hw5
          go_wp2_with fail
          refine hK.out _ _ (fun _ => hS5) ?_
          clear hK K
          refine wpTill_one (i := 4) (by kernel_rfl) rfl (fun K hK => ?_)
          go_simp
          obtain ⟨v2, hA⟩ : ∃ x, v1.alloc (.cells (entC Z.1) 119) = x := ⟨_, rfl⟩
          have hb : Below v1.heap.size v1 v2 := by rw [← hA]; exact (Below.refl _ _).alloc (Nat.le_refl _) _
          have HM6 := hid (HM5.out.below hb)
          have HW6 := hid (row_below HW5.out hb)
          have HX6 : Hid (Recs v2 (some ⟨v1.heap.size, 0, none⟩) 10 [Z.1]) := by rw [← hA]; exact recs_one v1 Z.1 _
          have hS6 := HM6.out.bx
          have hs6 := hb.size
          have HQ6 := hid (row_below HQ5.out hb)
          have hs5 := (Array.getElem?_eq_some_iff.1 hS5).1
          rw [hA]
          refine hK.out _ _ (fun _ => hS6) ?_
          clear hb hA
          clear hK K
          refine wpTill_one (i := 5) (by kernel_rfl) rfl (fun K hK => ?_)
          refine step_rows rfl (.tmp 30) (.tmp 33) rfl (w.heap.size + 2) (.slice ea (Rd.recs 10 E k).1.length ec) (Rd.recs 10 E k).1 (by simp [Act.eval]) HW6.out (some ⟨v1.heap.size, 0, none⟩) 1 [Z.1] (by simp [Act.eval]) HX6.out (fun h => by cases h) (by rw [HLEN.out]; show k + 1 ≤ 100000; omega) (by omega) ?_
          intro v7 v3 hr7 hg7 _
          have hM7 := HM6.out.grown hg7 (fun q hq => (World.ownsRow.lt HW6.out q hq).1) hp
          have hr7' : Row (w.heap.size + 2) v3 v7 (Rd.recs 10 E (k + 1)).1 := by rw [HNX1.out]; exact hr7
          obtain ⟨va7, vc7, rfl, _, _, _⟩ := hr7'.open
          have HM7 := hid hM7
          have HR7 := hid hr7'
          have hS7 := hM7.bx
          have HQ7 : Hid (NRow (w.heap.size + 2) v3 (.slice fa G.1.length fc) G.1) := row_other HQ6.out (fun g hg => hg7.block g (World.ownsRow.lt HQ6.out g hg).2 (fun e => rows_apart HQ6.out HW6.out (by decide) g hg e.symm))
          have y4 := cell_of_row v3 (w.heap.size + 1) 5 _ _ _ hS7
          have yf := fun j => frozen_of_row v3 (w.heap.size + 1) j _ _ hS7
          clear hr7 hg7 hM7 hr7'
          refine hK.out _ _ (fun _ => hS7) ?_
          clear hK K
          refine wpTill_take (i := 6) [6, 7] (v := ?_) rfl (by kernel_rfl) (by kernel_rfl) (by kernel_rfl) (by kernel_rfl) (fun _ _ _ h => h) (Or.inl ⟨by kernel_rfl, ?_⟩) (by assumption) ?_
          rotate_left
          · intro w' hSw
            go_simp
            all_goals with_reducible rfl
          simp only [Act.put]
          refine wpTill_one (i := 7) (by kernel_rfl) rfl (fun K hK => ?_)
          go_simp
          refine hK.out _ _ (fun h => absurd rfl h) ?_
          clear hK K
          refine wpTill_done (by kernel_rfl) ?_ _
          refine NoPanic.normal ?_
          have hM8 := HM7.out.set (v := .slice va7 (Rd.recs 10 E (k + 1)).1.length vc7) hp (seven_set5 HM7.out.bx)
          have hr8 := row_set HR7.out (row_ne HR7.out hS7 (by decide)) 5 (.slice va7 (Rd.recs 10 E (k + 1)).1.length vc7)
          have HM8 := hid hM8
          have HR8 := hid hr8
          have HQ8 := hid (row_set HQ7.out (row_ne HQ7.out hS7 (by decide)) 5 (.slice va7 (Rd.recs 10 E (k + 1)).1.length vc7))
          clear hM8 hr8 hS7 y4 yf
          go_wp2
          go_roundw
          case rel =>
            refine ⟨k + 1, .slice va7 (Rd.recs 10 E (k + 1)).1.length vc7, by omega, by go_num, hid ?_⟩
            rw [HNX2.out]
            exact ⟨HM8.out, HR8.out, HQ8.out⟩
          case measure => simp [intOf]; omega
        · have hltz : ¬ (k : Int) < (M : Int) := by omega
          have hkM : k = M := by omega
          subst hkM
          have HNW : Hid (r.elder = (⟨t, g0, g1, nx, G.1, (Rd.recs 10 E k).1, []⟩, (Rd.recs 10 E k).2)) := by
            show _ = _
            unfold Rd.elder Rd.all
            rw [HRR.out, HGG.out, HMM.out, HEE.out, HT.out, HG0.out, HG1.out, HNX.out, Int.toNat_natCast]
          have hrow := HR.out.2.1
          have hfrow := HR.out.2.2
          obtain ⟨ea, ec, rfl, hel, _, _⟩ := hrow.open
          have hM := HR.out.1
          obtain ⟨y0, y1, y2, y3, y4, y5⟩ := elder_cells hM.bx
          obtain ⟨q0, q1, q2, q3, q4, q5⟩ := elder_cells hM.re
          have qf := fun j => frozen_of_row wr w.heap.size j _ _ hM.re
          have hno := row_ne hrow hM.re (by decide)
          have hnf := row_ne hfrow hM.re (by decide)
          have hG1s : ∀ z ∈ G.1, Sml z := by
            rw [← HGG.out]
            exact many_sml _ _
          have hin : ∀ (c0 c1 c2 c3 c4 c5 : Value), InE ((((((wr.setCell ⟨w.heap.size, 0, none⟩ c0).setCell ⟨w.heap.size, 1, none⟩ c1).setCell ⟨w.heap.size, 2, none⟩ c2).setCell ⟨w.heap.size, 3, none⟩ c3).setCell ⟨w.heap.size, 4, none⟩ c4).setCell ⟨w.heap.size, 5, none⟩ c5) ⟨t, g0, g1, nx, G.1, (Rd.recs 10 E k).1, []⟩ fa ea fc ec := fun c0 c1 c2 c3 c4 c5 => by
            have h5 : Row (w.heap.size + 2) ((((((wr.setCell ⟨w.heap.size, 0, none⟩ c0).setCell ⟨w.heap.size, 1, none⟩ c1).setCell ⟨w.heap.size, 2, none⟩ c2).setCell ⟨w.heap.size, 3, none⟩ c3).setCell ⟨w.heap.size, 4, none⟩ c4).setCell ⟨w.heap.size, 5, none⟩ c5) (.slice ea (Rd.recs 10 E k).1.length ec) (Rd.recs 10 E k).1 := row_set (row_set (row_set (row_set (row_set (row_set hrow hno 0 c0) hno 1 c1) hno 2 c2) hno 3 c3) hno 4 c4) hno 5 c5
            have h6 : NRow (w.heap.size + 2) ((((((wr.setCell ⟨w.heap.size, 0, none⟩ c0).setCell ⟨w.heap.size, 1, none⟩ c1).setCell ⟨w.heap.size, 2, none⟩ c2).setCell ⟨w.heap.size, 3, none⟩ c3).setCell ⟨w.heap.size, 4, none⟩ c4).setCell ⟨w.heap.size, 5, none⟩ c5) (.slice fa G.1.length fc) G.1 := row_set (row_set (row_set (row_set (row_set (row_set hfrow hnf 0 c0) hnf 1 c1) hnf 2 c2) hnf 3 c3) hnf 4 c4) hnf 5 c5
            obtain ⟨ea', ec', he, hel', hrec, _⟩ := h5.open
            cases he
            obtain ⟨fa', fc', hf, hfl', hnum, _⟩ := h6.open
            cases hf
            refine ⟨own_none h6, own_none h5, hel, hrec, hnum, fun i hi => sml_wf (hG1s _ ?_), rfl⟩
            have hi' : i < G.1.length := hi
            show fld G.1 i ∈ G.1
            unfold fld
            rw [List.getD_eq_getElem?_getD, List.getElem?_eq_getElem hi']
            exact List.getElem_mem _
          have HFE := hid (own_frsh (B := w.heap.size) hrow (by omega))
          have HFF := hid (own_frsh (B := w.heap.size) hfrow (by omega))
          have HIN := hid hin
          have HRD := hid hM.rd
          have HKP := hid hM.kp
          have hne : p ≠ w.heap.size := by omega
          clear HR hrow hfrow hM hin hno hnf HM4 HROW4 HLEN HT HG0 HG1 HNX HN HF hG1s HMM HEE
          go_wp2
          rw [HNW.out]
          refine bodyPost_ret (v := elderV t g0 g1 nx (.slice fa G.1.length fc) (.slice ea (Rd.recs 10 E k).1.length ec)) (by simp [results, Tryz.results54, go_sem, q0, q1, q2, q3, q4, q5]) rfl ⟨fa, ea, fc, ec, rfl, HIN.out _ _ _ _ _ _, ?_, ?_, HFF.out, HFE.out⟩
          · exact rd_off (rd_off (rd_off (rd_off (rd_off (rd_off HRD.out hne) hne) hne) hne) hne) hne
          · exact keep_off (keep_off (keep_off (keep_off (keep_off (keep_off HKP.out (Nat.le_refl _)) (Nat.le_refl _)) (Nat.le_refl _)) (Nat.le_refl _)) (Nat.le_refl _)) (Nat.le_refl _)
end Go.Proofs.YtcbalhicaipmlaaGreat
