/- Package snap: a state's head is read. -/
import Derived.Test.YtcbalhicaipmlaaGreatRSnF
import Derived.Test.YtcbalhicaipmlaaGreatRSnJ
namespace Go.Proofs.YtcbalhicaipmlaaGreat
open Go.RowKit
theorem many_four {r : Rd} {R1 R2 R3 R4 : Int × Rd} (h1 : r.num = R1) (h2 : R1.2.num = R2) (h3 : R2.2.num = R3) (h4 : R3.2.num = R4) : r.many 4 = ([R1.1, R2.1, R3.1, R4.1], R4.2) := by
  simp only [Rd.many, h1, h2, h3, h4, List.nil_append, List.cons_append]
set_option maxHeartbeats 4000000 in
set_option maxRecDepth 100000 in
theorem readHead_calls (p : Nat) (r : Rd) (w : World) (h : RdAt p r w) :
    Calls Tryz.prog 92 #[.pointer (some ⟨p, 0, none⟩)] w fun e w' => e = .returned (.tuple #[.int .i64 (fld (r.many 4).1 0), .agg #[.int .i64 (fld (r.many 4).1 1), .int .i64 (fld (r.many 4).1 2)], .int .i64 (fld (r.many 4).1 3)]) ∧ RdAt p (r.many 4).2 w' ∧ Keep w (some p) w' := by
  obtain ⟨W, hW⟩ : ∃ W, w.alloc (.cells #[.int .i64 0, .int .i64 0] 22) = W := ⟨_, rfl⟩
  have hbW : Below w.heap.size w W := by rw [← hW]; exact (Below.refl _ w).alloc (Nat.le_refl _) _
  have hsW : W.heap.size = w.heap.size + 1 := by rw [← hW]; simp [go_sem]
  have hh0 : W.heap[w.heap.size]? = some (.cells #[.int .i64 0, .int .i64 0] 22) := by rw [← hW]; exact heap_alloc_new _ _
  have hp := h.lt
  obtain ⟨R1, hR1⟩ : ∃ R, r.num = R := ⟨_, rfl⟩
  obtain ⟨Ra, hRa⟩ : ∃ R, R1.2.num = R := ⟨_, rfl⟩
  obtain ⟨R2, hR2⟩ : ∃ R, Ra.2.num = R := ⟨_, rfl⟩
  obtain ⟨R3, hR3⟩ : ∃ R, R2.2.num = R := ⟨_, rfl⟩
  have HM := hid (many_four hR1 hRa hR2 hR3)
  have HC := hid (readNum_calls p r W (h.below hbW))
  rw [hR1] at HC
  have HRA := hid hRa
  have HR2' := hid hR2
  have HR3' := hid hR3
  have HBW := hid hbW
  have H0 := hid hh0
  have HSW := hid hsW
  clear h hbW hh0 hsW hR1 hRa hR2 hR3
  go_enter Tryz.func92, Tryz.ntmps92
  go_wp2_with fail
  refine HC.out.mono ?_
  rintro e w2 ⟨rfl, h2, k2⟩
  obtain ⟨V, hV⟩ : ∃ V, w2.alloc (.cells #[.int .i64 0, .int .i64 0] 22) = V := ⟨_, rfl⟩
  have hbV : Below w2.heap.size w2 V := by rw [← hV]; exact (Below.refl _ _).alloc (Nat.le_refl _) _
  have hsV : V.heap.size = w2.heap.size + 1 := by rw [← hV]; simp [go_sem]
  have hhV : V.heap[w2.heap.size]? = some (.cells #[.int .i64 0, .int .i64 0] 22) := by rw [← hV]; exact heap_alloc_new _ _
  have hs2 : w.heap.size < w2.heap.size := by have := k2.1.size; have := HSW.out; omega
  have hg2 : w2.heap[w.heap.size]? = some (.cells #[.int .i64 0, .int .i64 0] 22) := (k2.2 _ (by rw [HSW.out]; omega) (fun e => by cases e; omega)).trans H0.out
  have HI : Hid (RdAt p R1.2 V ∧ V.heap[w2.heap.size]? = some (.cells #[.int .i64 0, .int .i64 0] 22) ∧ V.heap[w.heap.size]? = some (.cells #[.int .i64 0, .int .i64 0] 22) ∧ Keep w (some p) V) := ⟨h2.below hbV, hhV, (hbV.block _ hs2).trans hg2, (keep_from HBW.out k2).below hbV⟩
  have hp2 := h2.lt
  clear h2 k2 hbV hhV hg2 hW HC hsV
  go_wp2_with fail
  go_loopw [10] (fun i wr => ∃ k : Nat, k ≤ 2 ∧ i = .int .i64 k ∧ Hid (RdAt p (R1.2.many k).2 wr ∧ wr.heap[w2.heap.size]? = some (.cells #[.int .i64 (fld (R1.2.many k).1 0), .int .i64 (fld (R1.2.many k).1 1)] 22) ∧ wr.heap[w.heap.size]? = some (.cells #[.int .i64 0, .int .i64 0] 22) ∧ Keep w (some p) wr)) (fun i _ => 2 - (intOf i).toNat)
  case atStart => exact ⟨0, Nat.zero_le _, rfl, HI.out⟩
  case round =>
    obtain ⟨k, hk, rfl, HR⟩ := hrel
    have hm0 : R1.2.many 0 = ([], R1.2) := rfl
    have hm1 : R1.2.many 1 = ([Ra.1], Ra.2) := by simp only [Rd.many, HRA.out, List.nil_append]
    have hm2 : R1.2.many 2 = ([Ra.1, R2.1], R2.2) := by simp only [Rd.many, HRA.out, HR2'.out, List.nil_append, List.cons_append]
    match k, hk with
    | 0, _ =>
      have hr := HR.out
      rw [hm0] at hr
      obtain ⟨h1, h3, h4, h5⟩ := hr
      have HC2 := hid (readNum_calls p R1.2 wr h1)
      rw [HRA.out] at HC2
      have H3 := hid h3
      have H4 := hid h4
      have H5 := hid h5
      have hl3 := (Array.getElem?_eq_some_iff.1 h3).1
      clear HR h1 h3 h4 h5 hm0 hm1 hm2
      go_wp2_with fail
      refine HC2.out.mono ?_
      rintro e w6 ⟨rfl, h6, k6⟩
      have h36 := (k6.2 _ hl3 (fun e => by cases e; omega)).trans H3.out
      have h46 := (k6.2 _ (by omega) (fun e => by cases e; omega)).trans H4.out
      have c0 := cell_of_row w6 w2.heap.size 0 _ _ _ h36
      have cf := fun j => frozen_of_row w6 w2.heap.size j _ _ h36
      have HFI : Hid (RdAt p (R1.2.many 1).2 (w6.setCell ⟨w2.heap.size, 0, none⟩ (.int .i64 Ra.1)) ∧ (w6.setCell ⟨w2.heap.size, 0, none⟩ (.int .i64 Ra.1)).heap[w2.heap.size]? = some (.cells #[.int .i64 (fld (R1.2.many 1).1 0), .int .i64 (fld (R1.2.many 1).1 1)] 22) ∧ (w6.setCell ⟨w2.heap.size, 0, none⟩ (.int .i64 Ra.1)).heap[w.heap.size]? = some (.cells #[.int .i64 0, .int .i64 0] 22) ∧ Keep w (some p) (w6.setCell ⟨w2.heap.size, 0, none⟩ (.int .i64 Ra.1))) := by
        have hm1 : R1.2.many 1 = ([Ra.1], Ra.2) := by simp only [Rd.many, HRA.out, List.nil_append]
        rw [hm1]
        refine ⟨rd_off h6 (by omega), heap_setCell_same w6 w2.heap.size 0 _ _ (.int .i64 Ra.1) h36, (heap_setCell_other w6 ⟨w2.heap.size, 0, none⟩ w.heap.size _ (fun e => by have e' : w.heap.size = w2.heap.size := e; omega)).trans h46, keep_off (keep_trans H5.out k6) (by omega)⟩
      clear h6 k6 h36 h46 HC2
      go_wp2
      go_roundw
      case rel => exact ⟨1, by omega, by go_num, HFI.out⟩
      case measure => simp [intOf]
    | 1, _ =>
      have hr := HR.out
      rw [hm1] at hr
      obtain ⟨h1, h3, h4, h5⟩ := hr
      have HC2 := hid (readNum_calls p Ra.2 wr h1)
      rw [HR2'.out] at HC2
      have H3 := hid h3
      have H4 := hid h4
      have H5 := hid h5
      have hl3 := (Array.getElem?_eq_some_iff.1 h3).1
      clear HR h1 h3 h4 h5 hm0 hm1 hm2
      go_wp2_with fail
      refine HC2.out.mono ?_
      rintro e w6 ⟨rfl, h6, k6⟩
      have h36 := (k6.2 _ hl3 (fun e => by cases e; omega)).trans H3.out
      have h46 := (k6.2 _ (by omega) (fun e => by cases e; omega)).trans H4.out
      have c0 := cell_of_row w6 w2.heap.size 1 _ _ _ h36
      have cf := fun j => frozen_of_row w6 w2.heap.size j _ _ h36
      have HFI : Hid (RdAt p (R1.2.many 2).2 (w6.setCell ⟨w2.heap.size, 1, none⟩ (.int .i64 R2.1)) ∧ (w6.setCell ⟨w2.heap.size, 1, none⟩ (.int .i64 R2.1)).heap[w2.heap.size]? = some (.cells #[.int .i64 (fld (R1.2.many 2).1 0), .int .i64 (fld (R1.2.many 2).1 1)] 22) ∧ (w6.setCell ⟨w2.heap.size, 1, none⟩ (.int .i64 R2.1)).heap[w.heap.size]? = some (.cells #[.int .i64 0, .int .i64 0] 22) ∧ Keep w (some p) (w6.setCell ⟨w2.heap.size, 1, none⟩ (.int .i64 R2.1))) := by
        have hm2 : R1.2.many 2 = ([Ra.1, R2.1], R2.2) := by simp only [Rd.many, HRA.out, HR2'.out, List.nil_append, List.cons_append]
        rw [hm2]
        refine ⟨rd_off h6 (by omega), heap_setCell_same w6 w2.heap.size 1 _ _ (.int .i64 R2.1) h36, (heap_setCell_other w6 ⟨w2.heap.size, 1, none⟩ w.heap.size _ (fun e => by have e' : w.heap.size = w2.heap.size := e; omega)).trans h46, keep_off (keep_trans H5.out k6) (by omega)⟩
      clear h6 k6 h36 h46 HC2
      go_wp2
      go_roundw
      case rel => exact ⟨2, by omega, by go_num, HFI.out⟩
      case measure => simp [intOf]
    | 2, _ =>
      have hr := HR.out
      rw [hm2] at hr
      obtain ⟨h1, h3, h4, h5⟩ := hr
      obtain ⟨a, ha⟩ : ∃ a, Ra.1 = a := ⟨_, rfl⟩
      obtain ⟨b, hb⟩ : ∃ b, R2.1 = b := ⟨_, rfl⟩
      have h3' : wr.heap[w2.heap.size]? = some (.cells #[.int .i64 a, .int .i64 b] 22) := by rw [← ha, ← hb]; exact h3
      have HAA := hid ha
      have HBB := hid hb
      have hl3 := (Array.getElem?_eq_some_iff.1 h3).1
      have r0 : ∀ w' : World, w'.heap[w2.heap.size]? = some (.cells #[.int .i64 a, .int .i64 b] 22) → w'.cell? ⟨w2.heap.size, 0, none⟩ = some (.int .i64 a) := fun w' h => cell_of_row w' w2.heap.size 0 _ _ _ h
      have r1 : ∀ w' : World, w'.heap[w2.heap.size]? = some (.cells #[.int .i64 a, .int .i64 b] 22) → w'.cell? ⟨w2.heap.size, 1, none⟩ = some (.int .i64 b) := fun w' h => cell_of_row w' w2.heap.size 1 _ _ _ h
      have H3 : Hid (wr.drew.heap[w2.heap.size]? = some (.cells #[.int .i64 a, .int .i64 b] 22)) := h3'
      have HG0' : Hid (wr.drew.heap[w.heap.size]? = some (.cells #[.int .i64 0, .int .i64 0] 22)) := h4
      have HR0' : Hid (RdAt p R2.2 wr.drew) := h1
      have HK0' : Hid (Keep w (some p) wr.drew) := h5.below (Below.refl _ _).drew
      have hl3' : w2.heap.size < wr.drew.heap.size := hl3
      clear HR h1 h3 h3' h4 h5 hm0 hm1 hm2 ha hb hl3
      go_wp2_with fail
      refine wp_region_noPanic ?_
      refine wp_region_till (S := fun w' : World => w'.heap[w2.heap.size]? = some (.cells #[.int .i64 a, .int .i64 b] 22)) 6 (by kernel_rfl) H3.out (fun hHeld => ?_)
      obtain ⟨w0, hw0⟩ : ∃ x, wr.drew = x := ⟨_, rfl⟩
      rw [hw0] at hHeld HG0' HR0' HK0' hl3' ⊢
      have HG0 := HG0'
      have HR0 := HR0'
      have HK0 := HK0'
      clear HG0' HR0' HK0' H3 hw0
      refine wpTill_take (i := 0) [0, 4, 5, 6] (v := ?_) rfl (by kernel_rfl) (by kernel_rfl) (by kernel_rfl) (by kernel_rfl) (fun _ _ _ h => h) (Or.inl ⟨by rfl, ?_⟩) (by assumption) ?_
      rotate_left
      · intro w' hSw
        go_simp
        all_goals with_reducible rfl
      simp only [Act.put]
      refine wpTill_take (i := 1) [1, 5, 6] (v := ?_) rfl (by kernel_rfl) (by kernel_rfl) (by kernel_rfl) (by kernel_rfl) (fun _ _ _ h => h) (Or.inl ⟨by rfl, ?_⟩) (by assumption) ?_
      rotate_left
      · intro w' hSw
        go_simp
        all_goals with_reducible rfl
      simp only [Act.put]
      refine wpTill_take (i := 2) [2, 3, 4, 5, 6] (v := ?_) rfl (by kernel_rfl) (by kernel_rfl) (by kernel_rfl) (by kernel_rfl) (fun _ _ _ h => h) (Or.inl ⟨by rfl, ?_⟩) (by assumption) ?_
      rotate_left
      · intro w' hSw
        go_simp
        all_goals with_reducible rfl
      simp only [Act.put]
      refine wpTill_one (i := 3) (by kernel_rfl) rfl (fun K hK => ?_)
      go_simp
      refine (readNum_calls p R2.2 w0 HR0.out).mono ?_
      rintro e v1 ⟨rfl, hr5, hk5⟩
      have hS5 : v1.heap[w2.heap.size]? = some (.cells #[.int .i64 a, .int .i64 b] 22) := (hk5.2 _ (by omega) (fun e => by cases e; omega)).trans hHeld
      have hg5 : v1.heap[w.heap.size]? = some (.cells #[.int .i64 0, .int .i64 0] 22) := (hk5.2 _ (by omega) (fun e => by cases e; omega)).trans HG0.out
      have q0 := cell_of_row v1 w.heap.size 0 _ _ _ hg5
      have q1 := cell_of_row v1 w.heap.size 1 _ _ _ hg5
      have qf := fun j => frozen_of_row v1 w.heap.size j _ _ hg5
      have HR5 := hid hr5
      have HK5 : Hid (Keep w (some p) v1) := keep_trans HK0.out hk5
      clear hr5 hk5 hg5
      go_wp2_with fail
      refine hK.out _ _ (fun _ => hS5) ?_
      clear hK K
      refine wpTill_take (i := 4) [4, 5, 6] (v := ?_) rfl (by kernel_rfl) (by kernel_rfl) (by kernel_rfl) (by kernel_rfl) (fun _ _ _ h => h) (Or.inl ⟨by rfl, ?_⟩) (by assumption) ?_
      rotate_left
      · intro w' hSw
        go_simp
        all_goals with_reducible rfl
      simp only [Act.put]
      refine wpTill_one (i := 5) (by kernel_rfl) rfl (fun K hK => ?_)
      go_simp
      refine hK.out _ _ (fun _ => (heap_setCell_other _ ⟨w.heap.size, 1, none⟩ w2.heap.size _ (fun e => by have e' : w2.heap.size = w.heap.size := e; omega)).trans ((heap_setCell_other _ ⟨w.heap.size, 0, none⟩ w2.heap.size _ (fun e => by have e' : w2.heap.size = w.heap.size := e; omega)).trans hS5)) ?_
      clear hK K
      refine wpTill_one (i := 6) (by kernel_rfl) rfl (fun K hK => ?_)
      go_simp
      refine hK.out _ _ (fun h => absurd rfl h) ?_
      clear hK K
      refine wpTill_done (by kernel_rfl) ?_ _
      refine NoPanic.normal ?_
      go_wp2
      rw [HM.out]
      refine bodyPost_ret (v := .tuple #[.int .i64 R1.1, .agg #[.int .i64 a, .int .i64 b], .int .i64 R2.2.num.1]) (by simp [results, Tryz.results92, go_sem, q0, q1]) rfl ⟨?_, ?_, ?_⟩
      · rw [HR3'.out, ← HAA.out, ← HBB.out]; rfl
      · rw [HR3'.out] at HR5
        exact rd_off (rd_off HR5.out (by omega)) (by omega)
      · exact keep_off (keep_off HK5.out (Nat.le_refl _)) (Nat.le_refl _)
end Go.Proofs.YtcbalhicaipmlaaGreat
