/- A region whose order is drawn, with a condition on the world that holds until one last operation: loads are taken first, though the last operation breaks what they read. -/
import Derived.Test.YtcbalhicaipmlaaGreatProg
import Derived.WalkKit
import Derived.Deep.RegionHeld3
import Derived.Test.YtcbalhicaipmlaaGreatSSnF
namespace Go.Proofs.YtcbalhicaipmlaaGreat
open Go
section
variable {P : Program} {ops : Array Oper} {Q : Exit → Act → World → Prop} {md : Region.Mode} {S : World → Prop} {n : Nat}
def wpTill (P : Program) (md : Region.Mode) (ops : Array Oper) (Q : Exit → Act → World → Prop) (S : World → Prop) (n : Nat) : Nat → Array Bool → Act → World → Prop
  | 0, listed, a, w => Region.ready md ops listed = [] ∧ Q .normal a w
  | fuel + 1, listed, a, w =>
    (Region.ready md ops listed = [] → Q .normal a w) ∧
    ∀ i ∈ Region.ready md ops listed, wpOp P ops Q i (fun a' w' => (i ≠ n → S w') ∧ wpTill P md ops Q S n fuel (listed.setIfInBounds i true) a' w') a w
theorem wpAny_of_till : ∀ (fuel : Nat) (listed : Array Bool) (a : Act) (w : World), wpTill P md ops Q S n fuel listed a w → wpAny P md ops Q fuel listed a w
  | 0, _, _, _, h => h
  | fuel + 1, _, _, _, h => ⟨h.1, fun i hi => wpOp_mono (fun a' w' h' => wpAny_of_till fuel _ a' w' h'.2) (h.2 i hi)⟩
def waits (md : Region.Mode) (ops : Array Oper) (i : Nat) (U : List Nat) : Bool :=
  U.all fun j => j == i || (match ops[j]? with | some o => o.after.any fun e => Region.binds md e && U.contains e.on | none => false)
theorem waits_spec {i : Nat} {U : List Nat} {listed : Array Bool} (hw : waits md ops i U = true) (hU : ∀ j ∈ U, listed.getD j true = false) {j : Nat} (hj : j ∈ Region.ready md ops listed) (hne : j ≠ i) : j ∉ U := by
  intro hm
  unfold waits at hw
  have h1 := List.all_eq_true.1 hw j hm
  obtain ⟨_, oj, hoj, hall⟩ := mem_ready.1 hj
  rw [hoj] at h1
  simp only [Bool.or_eq_true, beq_iff_eq, hne, false_or] at h1
  obtain ⟨e, he, hb⟩ := Array.any_eq_true'.1 h1
  rw [Bool.and_eq_true] at hb
  have h2 := hall e he hb.1
  have h3 := hU e.on (by simpa using hb.2)
  rcases Nat.lt_or_ge e.on listed.size with h' | h'
  · simp [h'] at h2 h3; rw [h3] at h2; cases h2
  · simp [Array.getElem?_eq_none h'] at h2
theorem wpTill_first {i : Nat} {oi : Oper} {v : Value} (hi : ops[i]? = some oi) (hsel : ∀ (j : Nat) (o : Oper) cs b, ops[j]? = some o → o.op ≠ .select cs b)
    (hQ : ∀ c a w, Q (.panic c) (a.put oi.dst v) w → Q (.panic c) a w) {U : List Nat} (hin : i ≠ n) (hnU : n ∈ U) (hwt : waits md ops i U = true) :
    ∀ (fuel : Nat) (listed : Array Bool) (a : Act) (w : World), (∀ j ∈ U, listed.getD j true = false) →
      (∀ j oj, ops[j]? = some oj → j ≠ i → listed.getD j true = false → (∀ e ∈ oj.after, Region.binds md e = true → e.on ≠ i) → oi.apart ops oj = true) →
      i ∈ Region.ready md ops listed → YieldsIf P ops S oi v a → S w →
      wpTill P md ops Q S n fuel (listed.setIfInBounds i true) (a.put oi.dst v) w → wpTill P md ops Q S n (fuel + 1) listed a w := by
  intro fuel
  induction fuel with
  | zero =>
    intro listed a w _ _ hr hy hS H
    refine ⟨fun h => (by rw [h] at hr; cases hr), fun j hj => ?_⟩
    by_cases hji : j = i
    · subst hji; exact hy.wpOp hi hS ⟨fun _ => hS, H⟩
    · have := ready_mono hj hji
      rw [H.1] at this
      cases this
  | succ fuel ih =>
    intro listed a w hU hfree hr hy hS H
    refine ⟨fun h => (by rw [h] at hr; cases hr), fun j hj => ?_⟩
    by_cases hji : j = i
    · subst hji; exact hy.wpOp hi hS ⟨fun _ => hS, H⟩
    · have h1 := H.2 j (ready_mono hj hji)
      have hjU := waits_spec hwt hU hj hji
      have hjn : j ≠ n := fun e => hjU (by rw [e]; exact hnU)
      obtain ⟨hjun, oj, hoj, hall⟩ := mem_ready.1 hj
      have hnot : ∀ e ∈ oj.after, Region.binds md e = true → e.on ≠ i := fun e he hb heq => by
        have h1 := hall e he hb
        have h0 := (mem_ready.1 hr).1
        rw [heq] at h1
        rcases Nat.lt_or_ge i listed.size with h' | h'
        · simp [h'] at h0 h1; rw [h0] at h1; cases h1
        · simp [Array.getElem?_eq_none h'] at h1
      have h2 := wpOp_putIf hoj (hfree j oj hoj hji hjun hnot) (fun cs b => hsel i oi cs b hi) (fun cs b => hsel j oj cs b hoj) hQ hy h1
      have hfree' : ∀ k ok, ops[k]? = some ok → k ≠ i → (listed.setIfInBounds j true).getD k true = false →
          (∀ e ∈ ok.after, Region.binds md e = true → e.on ≠ i) → oi.apart ops ok = true := fun k ok hk hki hun hno => by
        refine hfree k ok hk hki ?_ hno
        by_cases hjk : j = k
        · subst hjk; exact hjun
        · rw [getD_set_ne true hjk] at hun; exact hun
      have hU' : ∀ k ∈ U, (listed.setIfInBounds j true).getD k true = false := fun k hk => by
        rw [getD_set_ne true (fun e => hjU (by rw [e]; exact hk))]
        exact hU k hk
      refine wpOp_mono (fun a' w' h3 => ⟨fun _ => h3.2.1 hjn, ih (listed.setIfInBounds j true) a' w' hU' hfree' (ready_mono hr (Ne.symm hji)) h3.1 (h3.2.1 hjn) ?_⟩) h2
      rw [Array.setIfInBounds_comm _ _ hji]
      exact h3.2.2
theorem wpTill_take {i : Nat} (U : List Nat) {oi : Oper} {v : Value} {fuel : Nat} {listed : Array Bool} {a : Act} {w : World} (hi : ops[i]? = some oi)
    (hs : Region.noSelect ops = true) (hf : Region.free md ops listed i = true) (hr : (Region.ready md ops listed).contains i = true) (hw : (waits md ops i U && (U.contains n && (!(i == n) && U.all fun j => !(listed.getD j true)))) = true)
    (hQ : ∀ c a w, Q (.panic c) (a.put oi.dst v) w → Q (.panic c) a w) (hy : YieldsIf P ops S oi v a) (hS : S w)
    (h : wpTill P md ops Q S n fuel (listed.setIfInBounds i true) (a.put oi.dst v) w) : wpTill P md ops Q S n (fuel + 1) listed a w := by
  simp only [Bool.and_eq_true, Bool.not_eq_true', beq_eq_false_iff_ne, List.all_eq_true] at hw
  exact wpTill_first hi (Region.noSelect_spec hs) hQ hw.2.2.1 (by simpa using hw.2.1) hw.1 fuel listed a w (fun j hj => hw.2.2.2 j hj) (Region.free_spec hi hf) (by simpa using hr) hy hS h
theorem wpTill_one {i : Nat} {o : Oper} {fuel : Nat} {listed : Array Bool} {a : Act} {w : World} (hr : Region.ready md ops listed = [i]) (ho : ops[i]? = some o)
    (h : ∀ K' : Act → World → Prop, Shut (∀ a w, (i ≠ n → S w) → wpTill P md ops Q S n fuel (listed.setIfInBounds i true) a w → K' a w) → if Region.wanted o (yielded ops a.tmps) = true then Oper.wp P o a w K' Q else K' (a.put o.dst undef) w) :
    wpTill P md ops Q S n (fuel + 1) listed a w := by
  refine ⟨fun h0 => (by rw [h0] at hr; cases hr), fun j hj => ?_⟩
  rw [hr, List.mem_singleton] at hj
  subst hj
  exact wpOp_step ho (fun K' hK => h K' (fun a w hS hW => hK a w ⟨hS, hW⟩))
theorem wpTill_done {listed : Array Bool} {a : Act} {w : World} (hr : Region.ready md ops listed = []) (h : Q .normal a w) : ∀ fuel, wpTill P md ops Q S n fuel listed a w
  | 0 => ⟨hr, h⟩
  | _ + 1 => ⟨fun _ => h, by rw [hr]; simp⟩
theorem wp_region_till (n : Nat) {id : Nat} {a : Act} {w : World} (hm : P.follows .mixedOrders = true) (hS : S w.drew)
    (h : S w.drew → wpTill P .any ops Q S n ops.size (Array.replicate ops.size false) a w.drew) : (Code.region id ops true).wp P Q a w :=
  wp_region_any hm (wpAny_of_till _ _ _ _ (h hS))
end
end Go.Proofs.YtcbalhicaipmlaaGreat
namespace Go.Proofs.YtcbalhicaipmlaaGreat
open Go
section
variable {P : Program} {ops : Array Oper} {Q : Exit → Act → World → Prop} {md : Region.Mode} {S : World → Prop} {n : Nat}
theorem wpTill_two {i j : Nat} {o p : Oper} {fuel : Nat} {listed : Array Bool} {a : Act} {w : World} (hr : Region.ready md ops listed = [i, j]) (ho : ops[i]? = some o) (hp : ops[j]? = some p)
    (h1 : ∀ K' : Act → World → Prop, Shut (∀ a w, (i ≠ n → S w) → wpTill P md ops Q S n fuel (listed.setIfInBounds i true) a w → K' a w) → if Region.wanted o (yielded ops a.tmps) = true then Oper.wp P o a w K' Q else K' (a.put o.dst undef) w)
    (h2 : ∀ K' : Act → World → Prop, Shut (∀ a w, (j ≠ n → S w) → wpTill P md ops Q S n fuel (listed.setIfInBounds j true) a w → K' a w) → if Region.wanted p (yielded ops a.tmps) = true then Oper.wp P p a w K' Q else K' (a.put p.dst undef) w) :
    wpTill P md ops Q S n (fuel + 1) listed a w := by
  refine ⟨fun h0 => (by rw [h0] at hr; cases hr), fun k hk => ?_⟩
  rw [hr] at hk
  rcases List.mem_cons.1 hk with rfl | hk
  · exact wpOp_step ho (fun K' hK => h1 K' (fun a w hS hW => hK a w ⟨hS, hW⟩))
  · rw [List.mem_singleton] at hk
    subst hk
    exact wpOp_step hp (fun K' hK => h2 K' (fun a w hS hW => hK a w ⟨hS, hW⟩))
end
end Go.Proofs.YtcbalhicaipmlaaGreat
namespace Go.Proofs.YtcbalhicaipmlaaGreat
open Go.RowKit
theorem many_four {r : Rd} {R1 R2 R3 R4 : Int × Rd} (h1 : r.num = R1) (h2 : R1.2.num = R2) (h3 : R2.2.num = R3) (h4 : R3.2.num = R4) : r.many 4 = ([R1.1, R2.1, R3.1, R4.1], R4.2) := by
  simp only [Rd.many, h1, h2, h3, h4, List.nil_append, List.cons_append]
set_option maxHeartbeats 4000000 in
set_option maxRecDepth 100000 in
theorem readHead_calls (p : Nat) (r : Rd) (w : World) (h : RdAt p r w) :
    Calls Tryz.prog 92 #[.pointer (some ⟨p, 0, none⟩)] w fun e w' => e = .returned (.tuple #[.int .i64 (fld (r.many 4).1 0), .agg #[.int .i64 (fld (r.many 4).1 1), .int .i64 (fld (r.many 4).1 2)], .int .i64 (fld (r.many 4).1 3)]) ∧ RdAt p (r.many 4).2 w' ∧ Keep w (some p) w' := by
  obtain ⟨W, hW⟩ : ∃ W, w.alloc (.cells #[.int .i64 0, .int .i64 0] 22) = W := ⟨_, rfl⟩
  have hbW : Below w.heap.size w W := by rw [← hW]; exact (Below.refl _ w).alloc (Nat.le_refl _) _
  have hsW : W.heap.size = w.heap.size + 1 := by rw [← hW]; simp [go_sem]
  have hh0 : W.heap[w.heap.size]? = some (.cells #[.int .i64 0, .int .i64 0] 22) := by rw [← hW]; exact heap_alloc_new _ _
  have hp := h.lt
  obtain ⟨R1, hR1⟩ : ∃ R, r.num = R := ⟨_, rfl⟩
  obtain ⟨Ra, hRa⟩ : ∃ R, R1.2.num = R := ⟨_, rfl⟩
  obtain ⟨R2, hR2⟩ : ∃ R, Ra.2.num = R := ⟨_, rfl⟩
  obtain ⟨R3, hR3⟩ : ∃ R, R2.2.num = R := ⟨_, rfl⟩
  have HM := hid (many_four hR1 hRa hR2 hR3)
  have HC := hid (readNum_calls p r W (h.below hbW))
  rw [hR1] at HC
  have HRA := hid hRa
  have HR2' := hid hR2
  have HR3' := hid hR3
  have HBW := hid hbW
  have H0 := hid hh0
  have HSW := hid hsW
  clear h hbW hh0 hsW hR1 hRa hR2 hR3
  go_enter Tryz.func92, Tryz.ntmps92
  go_wp2_with fail
  refine HC.out.mono ?_
  rintro e w2 ⟨rfl, h2, k2⟩
  obtain ⟨V, hV⟩ : ∃ V, w2.alloc (.cells #[.int .i64 0, .int .i64 0] 22) = V := ⟨_, rfl⟩
  have hbV : Below w2.heap.size w2 V := by rw [← hV]; exact (Below.refl _ _).alloc (Nat.le_refl _) _
  have hsV : V.heap.size = w2.heap.size + 1 := by rw [← hV]; simp [go_sem]
  have hhV : V.heap[w2.heap.size]? = some (.cells #[.int .i64 0, .int .i64 0] 22) := by rw [← hV]; exact heap_alloc_new _ _
  have hs2 : w.heap.size < w2.heap.size := by have := k2.1.size; have := HSW.out; omega
  have hg2 : w2.heap[w.heap.size]? = some (.cells #[.int .i64 0, .int .i64 0] 22) := (k2.2 _ (by rw [HSW.out]; omega) (fun e => by cases e; omega)).trans H0.out
  have HI : Hid (RdAt p R1.2 V ∧ V.heap[w2.heap.size]? = some (.cells #[.int .i64 0, .int .i64 0] 22) ∧ V.heap[w.heap.size]? = some (.cells #[.int .i64 0, .int .i64 0] 22) ∧ Keep w (some p) V) := ⟨h2.below hbV, hhV, (hbV.block _ hs2).trans hg2, (keep_from HBW.out k2).below hbV⟩
  have hp2 := h2.lt
  clear h2 k2 hbV hhV hg2 hW HC hsV
  go_wp2_with fail
  go_loopw [10] (fun i wr => ∃ k : Nat, k ≤ 2 ∧ i = .int .i64 k ∧ Hid (RdAt p (R1.2.many k).2 wr ∧ wr.heap[w2.heap.size]? = some (.cells #[.int .i64 (fld (R1.2.many k).1 0), .int .i64 (fld (R1.2.many k).1 1)] 22) ∧ wr.heap[w.heap.size]? = some (.cells #[.int .i64 0, .int .i64 0] 22) ∧ Keep w (some p) wr)) (fun i _ => 2 - (intOf i).toNat)
  case atStart => exact ⟨0, Nat.zero_le _, rfl, HI.out⟩
  case round =>
    obtain ⟨k, hk, rfl, HR⟩ := hrel
    have hm0 : R1.2.many 0 = ([], R1.2) := rfl
    have hm1 : R1.2.many 1 = ([Ra.1], Ra.2) := by simp only [Rd.many, HRA.out, List.nil_append]
    have hm2 : R1.2.many 2 = ([Ra.1, R2.1], R2.2) := by simp only [Rd.many, HRA.out, HR2'.out, List.nil_append, List.cons_append]
    match k, hk with
    | 0, _ =>
      have hr := HR.out
      rw [hm0] at hr
      obtain ⟨h1, h3, h4, h5⟩ := hr
      have HC2 := hid (readNum_calls p R1.2 wr h1)
      rw [HRA.out] at HC2
      have H3 := hid h3
      have H4 := hid h4
      have H5 := hid h5
      have hl3 := (Array.getElem?_eq_some_iff.1 h3).1
      clear HR h1 h3 h4 h5 hm0 hm1 hm2
      go_wp2_with fail
      refine HC2.out.mono ?_
      rintro e w6 ⟨rfl, h6, k6⟩
      have h36 := (k6.2 _ hl3 (fun e => by cases e; omega)).trans H3.out
      have h46 := (k6.2 _ (by omega) (fun e => by cases e; omega)).trans H4.out
      have c0 := cell_of_row w6 w2.heap.size 0 _ _ _ h36
      have cf := fun j => frozen_of_row w6 w2.heap.size j _ _ h36
      have HFI : Hid (RdAt p (R1.2.many 1).2 (w6.setCell ⟨w2.heap.size, 0, none⟩ (.int .i64 Ra.1)) ∧ (w6.setCell ⟨w2.heap.size, 0, none⟩ (.int .i64 Ra.1)).heap[w2.heap.size]? = some (.cells #[.int .i64 (fld (R1.2.many 1).1 0), .int .i64 (fld (R1.2.many 1).1 1)] 22) ∧ (w6.setCell ⟨w2.heap.size, 0, none⟩ (.int .i64 Ra.1)).heap[w.heap.size]? = some (.cells #[.int .i64 0, .int .i64 0] 22) ∧ Keep w (some p) (w6.setCell ⟨w2.heap.size, 0, none⟩ (.int .i64 Ra.1))) := by
        have hm1 : R1.2.many 1 = ([Ra.1], Ra.2) := by simp only [Rd.many, HRA.out, List.nil_append]
        rw [hm1]
        refine ⟨rd_off h6 (by omega), heap_setCell_same w6 w2.heap.size 0 _ _ (.int .i64 Ra.1) h36, (heap_setCell_other w6 ⟨w2.heap.size, 0, none⟩ w.heap.size _ (fun e => by have e' : w.heap.size = w2.heap.size := e; omega)).trans h46, keep_off (keep_trans H5.out k6) (by omega)⟩
      clear h6 k6 h36 h46 HC2
      go_wp2
      go_roundw
      case rel => exact ⟨1, by omega, by go_num, HFI.out⟩
      case measure => simp [intOf]
    | 1, _ =>
      have hr := HR.out
      rw [hm1] at hr
      obtain ⟨h1, h3, h4, h5⟩ := hr
      have HC2 := hid (readNum_calls p Ra.2 wr h1)
      rw [HR2'.out] at HC2
      have H3 := hid h3
      have H4 := hid h4
      have H5 := hid h5
      have hl3 := (Array.getElem?_eq_some_iff.1 h3).1
      clear HR h1 h3 h4 h5 hm0 hm1 hm2
      go_wp2_with fail
      refine HC2.out.mono ?_
      rintro e w6 ⟨rfl, h6, k6⟩
      have h36 := (k6.2 _ hl3 (fun e => by cases e; omega)).trans H3.out
      have h46 := (k6.2 _ (by omega) (fun e => by cases e; omega)).trans H4.out
      have c0 := cell_of_row w6 w2.heap.size 1 _ _ _ h36
      have cf := fun j => frozen_of_row w6 w2.heap.size j _ _ h36
      have HFI : Hid (RdAt p (R1.2.many 2).2 (w6.setCell ⟨w2.heap.size, 1, none⟩ (.int .i64 R2.1)) ∧ (w6.setCell ⟨w2.heap.size, 1, none⟩ (.int .i64 R2.1)).heap[w2.heap.size]? = some (.cells #[.int .i64 (fld (R1.2.many 2).1 0), .int .i64 (fld (R1.2.many 2).1 1)] 22) ∧ (w6.setCell ⟨w2.heap.size, 1, none⟩ (.int .i64 R2.1)).heap[w.heap.size]? = some (.cells #[.int .i64 0, .int .i64 0] 22) ∧ Keep w (some p) (w6.setCell ⟨w2.heap.size, 1, none⟩ (.int .i64 R2.1))) := by
        have hm2 : R1.2.many 2 = ([Ra.1, R2.1], R2.2) := by simp only [Rd.many, HRA.out, HR2'.out, List.nil_append, List.cons_append]
        rw [hm2]
        refine ⟨rd_off h6 (by omega), heap_setCell_same w6 w2.heap.size 1 _ _ (.int .i64 R2.1) h36, (heap_setCell_other w6 ⟨w2.heap.size, 1, none⟩ w.heap.size _ (fun e => by have e' : w.heap.size = w2.heap.size := e; omega)).trans h46, keep_off (keep_trans H5.out k6) (by omega)⟩
      clear h6 k6 h36 h46 HC2
      go_wp2
      go_roundw
      case rel => exact ⟨2, by omega, by go_num, HFI.out⟩
      case measure => simp [intOf]
    | 2, _ =>
      have hr := HR.out
      rw [hm2] at hr
      obtain ⟨h1, h3, h4, h5⟩ := hr
      obtain ⟨a, ha⟩ : ∃ a, Ra.1 = a := ⟨_, rfl⟩
      obtain ⟨b, hb⟩ : ∃ b, R2.1 = b := ⟨_, rfl⟩
      have h3' : wr.heap[w2.heap.size]? = some (.cells #[.int .i64 a, .int .i64 b] 22) := by rw [← ha, ← hb]; exact h3
      have HAA := hid ha
      have HBB := hid hb
      have hl3 := (Array.getElem?_eq_some_iff.1 h3).1
      have r0 : ∀ w' : World, w'.heap[w2.heap.size]? = some (.cells #[.int .i64 a, .int .i64 b] 22) → w'.cell? ⟨w2.heap.size, 0, none⟩ = some (.int .i64 a) := fun w' h => cell_of_row w' w2.heap.size 0 _ _ _ h
      have r1 : ∀ w' : World, w'.heap[w2.heap.size]? = some (.cells #[.int .i64 a, .int .i64 b] 22) → w'.cell? ⟨w2.heap.size, 1, none⟩ = some (.int .i64 b) := fun w' h => cell_of_row w' w2.heap.size 1 _ _ _ h
      have H3 : Hid (wr.drew.heap[w2.heap.size]? = some (.cells #[.int .i64 a, .int .i64 b] 22)) := h3'
      have HG0' : Hid (wr.drew.heap[w.heap.size]? = some (.cells #[.int .i64 0, .int .i64 0] 22)) := h4
      have HR0' : Hid (RdAt p R2.2 wr.drew) := h1
      have HK0' : Hid (Keep w (some p) wr.drew) := h5.below (Below.refl _ _).drew
      have hl3' : w2.heap.size < wr.drew.heap.size := hl3
      clear HR h1 h3 h3' h4 h5 hm0 hm1 hm2 ha hb hl3
      go_wp2_with fail
      refine wp_region_noPanic ?_
      refine wp_region_till (S := fun w' : World => w'.heap[w2.heap.size]? = some (.cells #[.int .i64 a, .int .i64 b] 22)) 6 (by kernel_rfl) H3.out (fun hHeld => ?_)
      obtain ⟨w0, hw0⟩ : ∃ x, wr.drew = x := ⟨_, rfl⟩
      rw [hw0] at hHeld HG0' HR0' HK0' hl3' ⊢
      have HG0 := HG0'
      have HR0 := HR0'
      have HK0 := HK0'
      clear HG0' HR0' HK0' H3 hw0
      refine wpTill_take (i := 0) [0, 4, 5, 6] (v := ?_) rfl (by kernel_rfl) (by kernel_rfl) (by kernel_rfl) (by kernel_rfl) (fun _ _ _ h => h) (Or.inl ⟨by rfl, ?_⟩) (by assumption) ?_
      rotate_left
      · intro w' hSw
        go_simp
        all_goals with_reducible rfl
      simp only [Act.put]
      refine wpTill_take (i := 1) [1, 5, 6] (v := ?_) rfl (by kernel_rfl) (by kernel_rfl) (by kernel_rfl) (by kernel_rfl) (fun _ _ _ h => h) (Or.inl ⟨by rfl, ?_⟩) (by assumption) ?_
      rotate_left
      · intro w' hSw
        go_simp
        all_goals with_reducible rfl
      simp only [Act.put]
      refine wpTill_take (i := 2) [2, 3, 4, 5, 6] (v := ?_) rfl (by kernel_rfl) (by kernel_rfl) (by kernel_rfl) (by kernel_rfl) (fun _ _ _ h => h) (Or.inl ⟨by rfl, ?_⟩) (by assumption) ?_
      rotate_left
      · intro w' hSw
        go_simp
        all_goals with_reducible rfl
      simp only [Act.put]
      refine wpTill_one (i := 3) (by kernel_rfl) rfl (fun K hK => ?_)
      go_simp
      refine (readNum_calls p R2.2 w0 HR0.out).mono ?_
      rintro e v1 ⟨rfl, hr5, hk5⟩
      have hS5 : v1.heap[w2.heap.size]? = some (.cells #[.int .i64 a, .int .i64 b] 22) := (hk5.2 _ (by omega) (fun e => by cases e; omega)).trans hHeld
      have hg5 : v1.heap[w.heap.size]? = some (.cells #[.int .i64 0, .int .i64 0] 22) := (hk5.2 _ (by omega) (fun e => by cases e; omega)).trans HG0.out
      have q0 := cell_of_row v1 w.heap.size 0 _ _ _ hg5
      have q1 := cell_of_row v1 w.heap.size 1 _ _ _ hg5
      have qf := fun j => frozen_of_row v1 w.heap.size j _ _ hg5
      have HR5 := hid hr5
      have HK5 : Hid (Keep w (some p) v1) := keep_trans HK0.out hk5
      clear hr5 hk5 hg5
      go_wp2_with fail
      refine hK.out _ _ (fun _ => hS5) ?_
      clear hK K
      refine wpTill_take (i := 4) [4, 5, 6] (v := ?_) rfl (by kernel_rfl) (by kernel_rfl) (by kernel_rfl) (by kernel_rfl) (fun _ _ _ h => h) (Or.inl ⟨by rfl, ?_⟩) (by assumption) ?_
      rotate_left
      · intro w' hSw
        go_simp
        all_goals with_reducible rfl
      simp only [Act.put]
      refine wpTill_one (i := 5) (by kernel_rfl) rfl (fun K hK => ?_)
      go_simp
      refine hK.out _ _ (fun _ => (heap_setCell_other _ ⟨w.heap.size, 1, none⟩ w2.heap.size _ (fun e => by have e' : w2.heap.size = w.heap.size := e; omega)).trans ((heap_setCell_other _ ⟨w.heap.size, 0, none⟩ w2.heap.size _ (fun e => by have e' : w2.heap.size = w.heap.size := e; omega)).trans hS5)) ?_
      clear hK K
      refine wpTill_one (i := 6) (by kernel_rfl) rfl (fun K hK => ?_)
      go_simp
      refine hK.out _ _ (fun h => absurd rfl h) ?_
      clear hK K
      refine wpTill_done (by kernel_rfl) ?_ _
      refine NoPanic.normal ?_
      go_wp2
      rw [HM.out]
      refine bodyPost_ret (v := .tuple #[.int .i64 R1.1, .agg #[.int .i64 a, .int .i64 b], .int .i64 R2.2.num.1]) (by simp [results, Tryz.results92, go_sem, q0, q1]) rfl ⟨?_, ?_, ?_⟩
      · rw [HR3'.out, ← HAA.out, ← HBB.out]; rfl
      · rw [HR3'.out] at HR5
        exact rd_off (rd_off HR5.out (by omega)) (by omega)
      · exact keep_off (keep_off HK5.out (Nat.le_refl _)) (Nat.le_refl _)
end Go.Proofs.YtcbalhicaipmlaaGreat
