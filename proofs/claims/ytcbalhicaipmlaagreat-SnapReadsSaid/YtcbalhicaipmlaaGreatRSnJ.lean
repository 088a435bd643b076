/- Package snap: units are read. -/
import Derived.Test.YtcbalhicaipmlaaGreatProg
import Derived.WalkKit
import Derived.Deep.RegionHeld3
import Derived.Test.YtcbalhicaipmlaaGreatRNwK
import Derived.Test.YtcbalhicaipmlaaGreatRSnF
namespace Go.Proofs.YtcbalhicaipmlaaGreat
open Go.RowKit
set_option maxHeartbeats 4000000 in
set_option maxRecDepth 100000 in
theorem readUnit_calls (p : Nat) (r : Rd) (w : World) (h : RdAt p r w) :
    Calls Tryz.prog 97 #[.pointer (some ⟨p, 0, none⟩)] w fun e w' => e = .returned (unitV (r.many 11).1) ∧ RdAt p (r.many 11).2 w' ∧ Keep w (some p) w' := by
  obtain ⟨W, hW⟩ : ∃ W, w.alloc (.cells #[.int .i64 0, .int .i64 0, .int .i64 0, .int .i64 0, .int .i64 0, .int .i64 0, .int .i64 0, .int .i64 0, .int .i64 0, .int .i64 0, .int .i64 0] 121) = W := ⟨_, rfl⟩
  have hbW : Below w.heap.size w W := by rw [← hW]; exact (Below.refl _ w).alloc (Nat.le_refl _) _
  have hsW : W.heap.size = w.heap.size + 1 := by rw [← hW]; simp [go_sem]
  have hh0 : W.heap[w.heap.size]? = some (.cells #[.int .i64 0, .int .i64 0, .int .i64 0, .int .i64 0, .int .i64 0, .int .i64 0, .int .i64 0, .int .i64 0, .int .i64 0, .int .i64 0, .int .i64 0] 121) := by rw [← hW]; exact heap_alloc_new _ _
  have hp := h.lt
  have HBW := hid hbW
  have HSW := hid hsW
  have H0 := hid hh0
  have h0 := h.below hbW
  clear h hbW hsW hh0
  obtain ⟨R1, hR1⟩ : ∃ R, (r).num = R := ⟨_, rfl⟩
  obtain ⟨R2, hR2⟩ : ∃ R, (R1.2).num = R := ⟨_, rfl⟩
  obtain ⟨R3, hR3⟩ : ∃ R, (R2.2).num = R := ⟨_, rfl⟩
  obtain ⟨R4, hR4⟩ : ∃ R, (R3.2).num = R := ⟨_, rfl⟩
  obtain ⟨R5, hR5⟩ : ∃ R, (R4.2).num = R := ⟨_, rfl⟩
  obtain ⟨R6, hR6⟩ : ∃ R, (R5.2).num = R := ⟨_, rfl⟩
  obtain ⟨R7, hR7⟩ : ∃ R, (R6.2).num = R := ⟨_, rfl⟩
  obtain ⟨R8, hR8⟩ : ∃ R, (R7.2).num = R := ⟨_, rfl⟩
  obtain ⟨R9, hR9⟩ : ∃ R, (R8.2).num = R := ⟨_, rfl⟩
  obtain ⟨R10, hR10⟩ : ∃ R, (R9.2).num = R := ⟨_, rfl⟩
  obtain ⟨R11, hR11⟩ : ∃ R, (R10.2).num = R := ⟨_, rfl⟩
  have HM : Hid (r.many 11 = ([R1.1, R2.1, R3.1, R4.1, R5.1, R6.1, R7.1, R8.1, R9.1, R10.1, R11.1], R11.2)) := by
    show _ = _
    simp only [Rd.many, hR1, hR2, hR3, hR4, hR5, hR6, hR7, hR8, hR9, hR10, hR11, List.nil_append, List.cons_append]
  have HC1 := hid (readNum_calls p r W h0)
  rw [hR1] at HC1
  clear h0
  go_enter Tryz.func97, Tryz.ntmps97
  go_wp2_with fail
  refine HC1.out.mono ?_
  rintro e w1 ⟨rfl, h1, k1⟩
  have HK1 : Hid (Keep W (some p) w1) := k1
  clear k1 HC1 hW
  have HC2 := hid (readNum_calls p R1.2 w1 h1)
  rw [hR2] at HC2
  clear h1
  go_wp2_with fail
  refine HC2.out.mono ?_
  rintro e w2 ⟨rfl, h2, k2⟩
  have HK2 : Hid (Keep W (some p) w2) := keep_trans HK1.out k2
  clear k2 HC2 HK1
  have HC3 := hid (readNum_calls p R2.2 w2 h2)
  rw [hR3] at HC3
  clear h2
  go_wp2_with fail
  refine HC3.out.mono ?_
  rintro e w3 ⟨rfl, h3, k3⟩
  have HK3 : Hid (Keep W (some p) w3) := keep_trans HK2.out k3
  clear k3 HC3 HK2
  have HC4 := hid (readNum_calls p R3.2 w3 h3)
  rw [hR4] at HC4
  clear h3
  go_wp2_with fail
  refine HC4.out.mono ?_
  rintro e w4 ⟨rfl, h4, k4⟩
  have HK4 : Hid (Keep W (some p) w4) := keep_trans HK3.out k4
  clear k4 HC4 HK3
  have HC5 := hid (readNum_calls p R4.2 w4 h4)
  rw [hR5] at HC5
  clear h4
  go_wp2_with fail
  refine HC5.out.mono ?_
  rintro e w5 ⟨rfl, h5, k5⟩
  have HK5 : Hid (Keep W (some p) w5) := keep_trans HK4.out k5
  clear k5 HC5 HK4
  have HC6 := hid (readNum_calls p R5.2 w5 h5)
  rw [hR6] at HC6
  clear h5
  go_wp2_with fail
  refine HC6.out.mono ?_
  rintro e w6 ⟨rfl, h6, k6⟩
  have HK6 : Hid (Keep W (some p) w6) := keep_trans HK5.out k6
  clear k6 HC6 HK5
  have HC7 := hid (readNum_calls p R6.2 w6 h6)
  rw [hR7] at HC7
  clear h6
  go_wp2_with fail
  refine HC7.out.mono ?_
  rintro e w7 ⟨rfl, h7, k7⟩
  have HK7 : Hid (Keep W (some p) w7) := keep_trans HK6.out k7
  clear k7 HC7 HK6
  have HC8 := hid (readNum_calls p R7.2 w7 h7)
  rw [hR8] at HC8
  clear h7
  go_wp2_with fail
  refine HC8.out.mono ?_
  rintro e w8 ⟨rfl, h8, k8⟩
  have HK8 : Hid (Keep W (some p) w8) := keep_trans HK7.out k8
  clear k8 HC8 HK7
  have HC9 := hid (readNum_calls p R8.2 w8 h8)
  rw [hR9] at HC9
  clear h8
  go_wp2_with fail
  refine HC9.out.mono ?_
  rintro e w9 ⟨rfl, h9, k9⟩
  have HK9 : Hid (Keep W (some p) w9) := keep_trans HK8.out k9
  clear k9 HC9 HK8
  have HC10 := hid (readNum_calls p R9.2 w9 h9)
  rw [hR10] at HC10
  clear h9
  go_wp2_with fail
  refine HC10.out.mono ?_
  rintro e w10 ⟨rfl, h10, k10⟩
  have HK10 : Hid (Keep W (some p) w10) := keep_trans HK9.out k10
  clear k10 HC10 HK9
  have HC11 := hid (readNum_calls p R10.2 w10 h10)
  rw [hR11] at HC11
  clear h10
  go_wp2_with fail
  refine HC11.out.mono ?_
  rintro e w11 ⟨rfl, h11, k11⟩
  have HK11 : Hid (Keep W (some p) w11) := keep_trans HK10.out k11
  clear k11 HC11 HK10
  have hh := (HK11.out.2 w.heap.size (by rw [HSW.out]; omega) (fun e => by cases e; omega)).trans H0.out
  have hq := cells_at' hh
  have q0 : w11.cell? ⟨w.heap.size, 0, none⟩ = some (.int .i64 0) := hq.1 0 _ rfl
  have q1 : w11.cell? ⟨w.heap.size, 1, none⟩ = some (.int .i64 0) := hq.1 1 _ rfl
  have q2 : w11.cell? ⟨w.heap.size, 2, none⟩ = some (.int .i64 0) := hq.1 2 _ rfl
  have q3 : w11.cell? ⟨w.heap.size, 3, none⟩ = some (.int .i64 0) := hq.1 3 _ rfl
  have q4 : w11.cell? ⟨w.heap.size, 4, none⟩ = some (.int .i64 0) := hq.1 4 _ rfl
  have q5 : w11.cell? ⟨w.heap.size, 5, none⟩ = some (.int .i64 0) := hq.1 5 _ rfl
  have q6 : w11.cell? ⟨w.heap.size, 6, none⟩ = some (.int .i64 0) := hq.1 6 _ rfl
  have q7 : w11.cell? ⟨w.heap.size, 7, none⟩ = some (.int .i64 0) := hq.1 7 _ rfl
  have q8 : w11.cell? ⟨w.heap.size, 8, none⟩ = some (.int .i64 0) := hq.1 8 _ rfl
  have q9 : w11.cell? ⟨w.heap.size, 9, none⟩ = some (.int .i64 0) := hq.1 9 _ rfl
  have q10 : w11.cell? ⟨w.heap.size, 10, none⟩ = some (.int .i64 0) := hq.1 10 _ rfl
  have qf := hq.2
  have HRD := hid h11
  have HKP : Hid (Keep w (some p) w11) := keep_from HBW.out HK11.out
  have hne : p ≠ w.heap.size := by omega
  clear h11 hh hq HK11 hR1 hR2 hR3 hR4 hR5 hR6 hR7 hR8 hR9 hR10 hR11
  go_wp2
  rw [HM.out]
  refine bodyPost_ret (v := unitV [R1.1, R2.1, R3.1, R4.1, R5.1, R6.1, R7.1, R8.1, R9.1, R10.1, R11.1]) (by simp [results, Tryz.results97, go_sem, q0, q1, q2, q3, q4, q5, q6, q7, q8, q9, q10]; try exact ⟨rfl, rfl, rfl, rfl, rfl, rfl, rfl, rfl, rfl, rfl, rfl⟩) rfl ⟨rfl, ?_, ?_⟩
  · exact (rd_off (rd_off (rd_off (rd_off (rd_off (rd_off (rd_off (rd_off (rd_off (rd_off (rd_off HRD.out hne) hne) hne) hne) hne) hne) hne) hne) hne) hne) hne)
  · exact (keep_off (keep_off (keep_off (keep_off (keep_off (keep_off (keep_off (keep_off (keep_off (keep_off (keep_off HKP.out (Nat.le_refl _)) (Nat.le_refl _)) (Nat.le_refl _)) (Nat.le_refl _)) (Nat.le_refl _)) (Nat.le_refl _)) (Nat.le_refl _)) (Nat.le_refl _)) (Nat.le_refl _)) (Nat.le_refl _)) (Nat.le_refl _))
end Go.Proofs.YtcbalhicaipmlaaGreat
namespace Go.Proofs.YtcbalhicaipmlaaGreat
open Go
section
variable {P : Program} {ops : Array Oper} {Q : Exit → Act → World → Prop} {md : Region.Mode} {S : World → Prop} {n : Nat}
def wpTill (P : Program) (md : Region.Mode) (ops : Array Oper) (Q : Exit → Act → World → Prop) (S : World → Prop) (n : Nat) : Nat → Array Bool → Act → World → Prop
  | 0, listed, a, w => Region.ready md ops listed = [] ∧ Q .normal a w
  | fuel + 1, listed, a, w =>
    (Region.ready md ops listed = [] → Q .normal a w) ∧
    ∀ i ∈ Region.ready md ops listed, wpOp P ops Q i (fun a' w' => (i ≠ n → S w') ∧ wpTill P md ops Q S n fuel (listed.setIfInBounds i true) a' w') a w
theorem wpAny_of_till : ∀ (fuel : Nat) (listed : Array Bool) (a : Act) (w : World), wpTill P md ops Q S n fuel listed a w → wpAny P md ops Q fuel listed a w
  | 0, _, _, _, h => h
  | fuel + 1, _, _, _, h => ⟨h.1, fun i hi => wpOp_mono (fun a' w' h' => wpAny_of_till fuel _ a' w' h'.2) (h.2 i hi)⟩
def waits (md : Region.Mode) (ops : Array Oper) (i : Nat) (U : List Nat) : Bool :=
  U.all fun j => j == i || (match ops[j]? with | some o => o.after.any fun e => Region.binds md e && U.contains e.on | none => false)
theorem waits_spec {i : Nat} {U : List Nat} {listed : Array Bool} (hw : waits md ops i U = true) (hU : ∀ j ∈ U, listed.getD j true = false) {j : Nat} (hj : j ∈ Region.ready md ops listed) (hne : j ≠ i) : j ∉ U := by
  intro hm
  unfold waits at hw
  have h1 := List.all_eq_true.1 hw j hm
  obtain ⟨_, oj, hoj, hall⟩ := mem_ready.1 hj
  rw [hoj] at h1
  simp only [Bool.or_eq_true, beq_iff_eq, hne, false_or] at h1
  obtain ⟨e, he, hb⟩ := Array.any_eq_true'.1 h1
  rw [Bool.and_eq_true] at hb
  have h2 := hall e he hb.1
  have h3 := hU e.on (by simpa using hb.2)
  rcases Nat.lt_or_ge e.on listed.size with h' | h'
  · simp [h'] at h2 h3; rw [h3] at h2; cases h2
  · simp [Array.getElem?_eq_none h'] at h2
theorem wpTill_first {i : Nat} {oi : Oper} {v : Value} (hi : ops[i]? = some oi) (hsel : ∀ (j : Nat) (o : Oper) cs b, ops[j]? = some o → o.op ≠ .select cs b)
    (hQ : ∀ c a w, Q (.panic c) (a.put oi.dst v) w → Q (.panic c) a w) {U : List Nat} (hin : i ≠ n) (hnU : n ∈ U) (hwt : waits md ops i U = true) :
    ∀ (fuel : Nat) (listed : Array Bool) (a : Act) (w : World), (∀ j ∈ U, listed.getD j true = false) →
      (∀ j oj, ops[j]? = some oj → j ≠ i → listed.getD j true = false → (∀ e ∈ oj.after, Region.binds md e = true → e.on ≠ i) → oi.apart ops oj = true) →
      i ∈ Region.ready md ops listed → YieldsIf P ops S oi v a → S w →
      wpTill P md ops Q S n fuel (listed.setIfInBounds i true) (a.put oi.dst v) w → wpTill P md ops Q S n (fuel + 1) listed a w := by
  intro fuel
  induction fuel with
  | zero =>
    intro listed a w _ _ hr hy hS H
    refine ⟨fun h => (by rw [h] at hr; cases hr), fun j hj => ?_⟩
    by_cases hji : j = i
    · subst hji; exact hy.wpOp hi hS ⟨fun _ => hS, H⟩
    · have := ready_mono hj hji
      rw [H.1] at this
      cases this
  | succ fuel ih =>
    intro listed a w hU hfree hr hy hS H
    refine ⟨fun h => (by rw [h] at hr; cases hr), fun j hj => ?_⟩
    by_cases hji : j = i
    · subst hji; exact hy.wpOp hi hS ⟨fun _ => hS, H⟩
    · have h1 := H.2 j (ready_mono hj hji)
      have hjU := waits_spec hwt hU hj hji
      have hjn : j ≠ n := fun e => hjU (by rw [e]; exact hnU)
      obtain ⟨hjun, oj, hoj, hall⟩ := mem_ready.1 hj
      have hnot : ∀ e ∈ oj.after, Region.binds md e = true → e.on ≠ i := fun e he hb heq => by
        have h1 := hall e he hb
        have h0 := (mem_ready.1 hr).1
        rw [heq] at h1
        rcases Nat.lt_or_ge i listed.size with h' | h'
        · simp [h'] at h0 h1; rw [h0] at h1; cases h1
        · simp [Array.getElem?_eq_none h'] at h1
      have h2 := wpOp_putIf hoj (hfree j oj hoj hji hjun hnot) (fun cs b => hsel i oi cs b hi) (fun cs b => hsel j oj cs b hoj) hQ hy h1
      have hfree' : ∀ k ok, ops[k]? = some ok → k ≠ i → (listed.setIfInBounds j true).getD k true = false →
          (∀ e ∈ ok.after, Region.binds md e = true → e.on ≠ i) → oi.apart ops ok = true := fun k ok hk hki hun hno => by
        refine hfree k ok hk hki ?_ hno
        by_cases hjk : j = k
        · subst hjk; exact hjun
        · rw [getD_set_ne true hjk] at hun; exact hun
      have hU' : ∀ k ∈ U, (listed.setIfInBounds j true).getD k true = false := fun k hk => by
        rw [getD_set_ne true (fun e => hjU (by rw [e]; exact hk))]
        exact hU k hk
      refine wpOp_mono (fun a' w' h3 => ⟨fun _ => h3.2.1 hjn, ih (listed.setIfInBounds j true) a' w' hU' hfree' (ready_mono hr (Ne.symm hji)) h3.1 (h3.2.1 hjn) ?_⟩) h2
      rw [Array.setIfInBounds_comm _ _ hji]
      exact h3.2.2
theorem wpTill_take {i : Nat} (U : List Nat) {oi : Oper} {v : Value} {fuel : Nat} {listed : Array Bool} {a : Act} {w : World} (hi : ops[i]? = some oi)
    (hs : Region.noSelect ops = true) (hf : Region.free md ops listed i = true) (hr : (Region.ready md ops listed).contains i = true) (hw : (waits md ops i U && (U.contains n && (!(i == n) && U.all fun j => !(listed.getD j true)))) = true)
    (hQ : ∀ c a w, Q (.panic c) (a.put oi.dst v) w → Q (.panic c) a w) (hy : YieldsIf P ops S oi v a) (hS : S w)
    (h : wpTill P md ops Q S n fuel (listed.setIfInBounds i true) (a.put oi.dst v) w) : wpTill P md ops Q S n (fuel + 1) listed a w := by
  simp only [Bool.and_eq_true, Bool.not_eq_true', beq_eq_false_iff_ne, List.all_eq_true] at hw
  exact wpTill_first hi (Region.noSelect_spec hs) hQ hw.2.2.1 (by simpa using hw.2.1) hw.1 fuel listed a w (fun j hj => hw.2.2.2 j hj) (Region.free_spec hi hf) (by simpa using hr) hy hS h
theorem wpTill_one {i : Nat} {o : Oper} {fuel : Nat} {listed : Array Bool} {a : Act} {w : World} (hr : Region.ready md ops listed = [i]) (ho : ops[i]? = some o)
    (h : ∀ K' : Act → World → Prop, Shut (∀ a w, (i ≠ n → S w) → wpTill P md ops Q S n fuel (listed.setIfInBounds i true) a w → K' a w) → if Region.wanted o (yielded ops a.tmps) = true then Oper.wp P o a w K' Q else K' (a.put o.dst undef) w) :
    wpTill P md ops Q S n (fuel + 1) listed a w := by
  refine ⟨fun h0 => (by rw [h0] at hr; cases hr), fun j hj => ?_⟩
  rw [hr, List.mem_singleton] at hj
  subst hj
  exact wpOp_step ho (fun K' hK => h K' (fun a w hS hW => hK a w ⟨hS, hW⟩))
theorem wpTill_done {listed : Array Bool} {a : Act} {w : World} (hr : Region.ready md ops listed = []) (h : Q .normal a w) : ∀ fuel, wpTill P md ops Q S n fuel listed a w
  | 0 => ⟨hr, h⟩
  | _ + 1 => ⟨fun _ => h, by rw [hr]; simp⟩
theorem wp_region_till (n : Nat) {id : Nat} {a : Act} {w : World} (hm : P.follows .mixedOrders = true) (hS : S w.drew)
    (h : S w.drew → wpTill P .any ops Q S n ops.size (Array.replicate ops.size false) a w.drew) : (Code.region id ops true).wp P Q a w :=
  wp_region_any hm (wpAny_of_till _ _ _ _ (h hS))
end
end Go.Proofs.YtcbalhicaipmlaaGreat
