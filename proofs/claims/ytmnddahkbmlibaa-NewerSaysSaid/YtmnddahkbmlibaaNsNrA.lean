/- The reference's game: a state of the newer game as a game, and back. -/
import Derived.BigQuiet
import Derived.Test.YtmnddahkbmlibaaProg
import Derived.WalkKit
import Derived.Deep.RegionHeld3
import Derived.Test.YtmnddahkbmlibaaNsSw
import Derived.Test.YtmnddahkbmlibaaNsNwF
import Derived.Test.YtmnddahkbmlibaaNsNwK
import Derived.Test.YtmnddahkbmlibaaNsRefQ
import Derived.Test.YtmnddahkbmlibaaNsWhN
namespace Go.Proofs.Ytmnddahkbmlibaa
open Go.RowKit Go.Maps
theorem Gr.newN (w : World) (t g0 g1 nx : Int) (base : Nat) (hb : base ≤ w.heap.size) : Gr base (w.alloc (.cells (refC true (st0 t g0 g1 nx [] []) nilV nilV nilV) 147)) w.heap.size nilV nilV nilV true (st0 t g0 g1 nx [] []) :=
  ⟨heap_alloc_new w _, World.ownsRow_nil _ _ _ _, World.ownsRow_nil _ _ _ _, World.ownsRow_nil _ _ _ _, hb, Or.inl rfl⟩
set_option maxRecDepth 100000 in
set_option maxHeartbeats 8000000 in
theorem ofNewer_calls (t g0 g1 nx : Int) (ua : Option Addr) (uc : Nat) (us : List (List Int)) (w : World) (hnu : us.length ≤ 1000) (hrow : Recs w ua 11 us) (hun : ua = none → uc = 0) :
    Calls Try.prog 55 #[newerV t g0 g1 nx (.slice ua us.length uc)] w fun e w' => ∃ p, e = .returned (.pointer (some ⟨p, 0, none⟩)) ∧ GrE w.heap.size w' p true (st0 t g0 g1 nx [] us) ∧ Below w.heap.size w w' := by
  obtain ⟨W, hW⟩ : ∃ W, (w.alloc (.cells (newerC t g0 g1 nx (.slice ua us.length uc)) 90)).alloc (.cells #[.bool true, .int .i64 t, .int .i64 g0, .int .i64 g1, .int .i64 nx, .slice none 0 0, .slice none 0 0, .slice none 0 0] 147) = W := ⟨_, rfl⟩
  have hbW : Below w.heap.size w W := by
    rw [← hW]
    exact ((Below.refl _ w).alloc (Nat.le_refl _) _).alloc (by simp [go_sem]) _
  have hsW : W.heap.size = w.heap.size + 2 := by rw [← hW]; simp [go_sem]
  have HGW : Hid (Gr w.heap.size W (w.heap.size + 1) nilV nilV nilV true (st0 t g0 g1 nx [] [])) := by
    have h := Gr.newN (w.alloc (.cells (newerC t g0 g1 nx (.slice ua us.length uc)) 90)) t g0 g1 nx w.heap.size (by simp [go_sem])
    have hW' : (w.alloc (.cells (newerC t g0 g1 nx (.slice ua us.length uc)) 90)).alloc (.cells (refC true (st0 t g0 g1 nx [] []) nilV nilV nilV) 147) = W := hW
    rw [hW'] at h
    have e : (w.alloc (.cells (newerC t g0 g1 nx (.slice ua us.length uc)) 90)).heap.size = w.heap.size + 1 := by simp [go_sem]
    rw [e] at h
    exact h
  have hbx : W.heap[w.heap.size]? = some (.cells (newerC t g0 g1 nx (.slice ua us.length uc)) 90) := by
    rw [← hW, heap_alloc_old _ _ (by simp [go_sem])]
    exact heap_alloc_new w _
  have b4 : W.cell? ⟨w.heap.size, 4, none⟩ = some (.slice ua us.length uc) := cell_of_row W _ 4 _ _ _ hbx
  have g6 : W.cell? ⟨w.heap.size + 1, 6, none⟩ = some nilV := HGW.out.cell 6
  have gf6 : W.frozen? ⟨w.heap.size + 1, 6, none⟩ = false := HGW.out.frozen 6
  have HRW := hid (hrow.below hbW)
  have HBW := hid hbW
  have HUN := hid hun
  clear hrow hbx hbW hun
  go_enter Try.func55, Try.ntmps55
  go_wp2_with fail
  go_region_law (refine step_rowsU rfl (.tmp 16) (.tmp 18) rfl w.heap.size nilV [] (by simp [Act.eval]) (World.ownsRow_nil _ _ _ _) ua uc us (by simp [Act.eval]) HRW.out HUN.out (by show 0 + us.length ≤ 100000; omega) (by simp [go_sem]; omega) ?_
                 intro v' w' hr hg hl
                 rw [List.nil_append] at hr
                 have hr' := hr
                 obtain ⟨va, vc, rfl, _, _, _⟩ := hr'.open
                 have hb' : Below W.heap.size W w' := (Below.refl _ W).grown ⟨hg.os, hg.tape, hg.output, hg.size, hg.block⟩ (Nat.le_refl _) (fun k hk => by cases hk)
                 have d6 : w'.cell? ⟨w.heap.size + 1, 6, none⟩ = some nilV := (HGW.out.below hb').cell 6
                 have f6 : w'.frozen? ⟨w.heap.size + 1, 6, none⟩ = false := (HGW.out.below hb').frozen 6
                 have HR' := hid hr
                 have HB' := hid hb'
                 have HG' : Hid (W.grownBy w' nilV.ownBlock) := ⟨hg.os, hg.tape, hg.output, hg.size, hg.block⟩
                 clear hr hr' hg hl hb')
  all_goals
    go_wp2
    go_ret
    exact ⟨_, rfl, ⟨_, _, _, Gr.grewU HGW.out HR'.out HG'.out⟩, (HBW.out.trans (HB'.out.mono (by rw [hsW]; omega))).setCell (p := ⟨w.heap.size + 1, 6, none⟩) (Nat.le_succ _) _⟩
end Go.Proofs.Ytmnddahkbmlibaa
namespace Go.Proofs.Ytmnddahkbmlibaa
open Go.RowKit Go.Maps
set_option maxRecDepth 100000 in
set_option maxHeartbeats 4000000 in
theorem refNewer_calls (base p : Nat) (nw : Bool) (s : St) (uv fv bv : Value) (w : World) (hG : Gr base w p uv fv bv nw s) :
    Calls Try.prog 111 #[.pointer (some ⟨p, 0, none⟩)] w fun e w' => e = .returned (newerV s.t s.g0 s.g1 s.nx uv) ∧ RowU base w' uv s.es ∧ Below w.heap.size w w' := by
  obtain ⟨ua, uc, rfl, hcap, hrecs, _⟩ := hG.er.open
  obtain ⟨W, hW⟩ : ∃ W, w.alloc (.cells (newerC 0 0 0 0 (.slice none 0 0)) 90) = W := ⟨_, rfl⟩
  have hbW : Below w.heap.size w W := by rw [← hW]; exact (Below.refl _ w).alloc (Nat.le_refl _) _
  have hh0 : W.heap[w.heap.size]? = some (.cells (newerC 0 0 0 0 (.slice none 0 0)) 90) := by rw [← hW]; exact heap_alloc_new w _
  have hGW := hG.below hbW
  have k1 : W.cell? ⟨p, 1, none⟩ = some (.int .i64 s.t) := hGW.cell 1
  have k2 : W.cell? ⟨p, 2, none⟩ = some (.int .i64 s.g0) := hGW.cell 2
  have k3 : W.cell? ⟨p, 3, none⟩ = some (.int .i64 s.g1) := hGW.cell 3
  have k4 : W.cell? ⟨p, 4, none⟩ = some (.int .i64 s.nx) := hGW.cell 4
  have k6 : W.cell? ⟨p, 6, none⟩ = some (.slice ua s.es.length uc) := hGW.cell 6
  obtain ⟨d0, d1, d2, d3, d4, df⟩ := five_cells hh0
  have f0 := df 0
  have f1 := df 1
  have f2 := df 2
  have f3 := df 3
  have f4 := df 4
  have hpw := hG.lt
  have hpn : p ≠ w.heap.size := by omega
  have HBW := hid hbW
  have HER := hid hGW.er
  have HNE := hid (row_ne hGW.er hh0 (by decide))
  clear hG hGW hrecs hbW hh0 hcap df
  go_enter Try.func111, Try.ntmps111
  go_wp2_with fail
  clear hW
  go_region
  all_goals
    go_wp2
    refine bodyPost_ret (v := newerV s.t s.g0 s.g1 s.nx (.slice ua s.es.length uc)) (by simp [results, Try.results111, go_sem, d0, d1, d2, d3, d4]) rfl ⟨rfl, ?_, ?_⟩
    · exact row_set (row_set (row_set (row_set (row_set (w := W.drew) HER.out HNE.out _ _) HNE.out _ _) HNE.out _ _) HNE.out _ _) HNE.out _ _
    · exact ((((HBW.out.drew.setCell (p := ⟨w.heap.size, 0, none⟩) (Nat.le_refl _) _).setCell (p := ⟨w.heap.size, 1, none⟩) (Nat.le_refl _) _).setCell (p := ⟨w.heap.size, 2, none⟩) (Nat.le_refl _) _).setCell (p := ⟨w.heap.size, 3, none⟩) (Nat.le_refl _) _).setCell (p := ⟨w.heap.size, 4, none⟩) (Nat.le_refl _) _
end Go.Proofs.Ytmnddahkbmlibaa
namespace Go.Proofs.Ytmnddahkbmlibaa
open Go.RowKit Go.Maps
theorem st0_N {s : St} (hf : s.free = []) (hb : s.born = []) : st0 s.t s.g0 s.g1 s.nx [] s.es = s := by
  cases s
  simp only at hf hb
  subst hf hb
  rfl
theorem ordN_born (s : St) (q : List Int) (hf : s.free = []) (hl : ∀ v ∈ s.es, fld v 0 < s.nx) : (ordN s q).born.length ≤ s.born.length + 1 := by
  unfold ordN doN goesR aimsR stopR
  repeat' (first | (show s.born.length ≤ s.born.length + 1; omega) | split)
  all_goals
    rw [buildN s hf hl]
    repeat' (first | (show s.born.length ≤ s.born.length + 1; omega) | split)
    all_goals
      rw [payN]
      show (s.born ++ [s.nx]).length ≤ _
      simp
theorem ords_born : ∀ (l : List (List Int)) {s : St}, InvN s → (ordsN s l).born.length ≤ s.born.length + l.length := by
  intro l
  induction l with
  | nil => exact fun _ => Nat.le_refl _
  | cons q l ih =>
    intro s h
    have h1 := ih (invN_ord h q)
    have h2 := ordN_born s q h.fr h.lt
    show (ordsN (ordN s q) l).born.length ≤ _
    rw [List.length_cons]
    omega
set_option maxRecDepth 100000 in
set_option maxHeartbeats 8000000 in
theorem stepNR_check (s : St) (ua la : Option Addr) (uc lc : Nat) (l : List (List Int)) (w : World) (h : InW w s ua uc) (hne : s.es.length ≤ 1000) (hc : checkN s.t s.g0 s.g1 s.nx s.es ≠ 0) :
    Calls Try.prog 53 #[newerV s.t s.g0 s.g1 s.nx (.slice ua s.es.length uc), .slice la l.length lc] w fun e w' => e = .returned (.tuple #[zeroNV, .int .i64 (checkN s.t s.g0 s.g1 s.nx s.es)]) ∧ Below w.heap.size w w' := by
  obtain ⟨W, hW⟩ : ∃ W, (w.alloc (.cells (newerC s.t s.g0 s.g1 s.nx (.slice ua s.es.length uc)) 90)).alloc (.cells (newerC 0 0 0 0 (.slice none 0 0)) 90) = W := ⟨_, rfl⟩
  obtain ⟨hbW, hsW, hh0, hh1⟩ := boxes5 hW
  obtain ⟨x0, x1, x2, x3, x4, _⟩ := five_cells hh0
  have HO := hid (ofNewer_calls s.t s.g0 s.g1 s.nx ua uc s.es W hne (h.rows.below hbW) h.un)
  have HBW := hid hbW
  have HSW := hid hsW
  have H1 := hid hh1
  have HU := hid (st0_N h.fr h.born)
  have HF := hid (faultN s h.fr)
  have hn : 0 < checkN s.t s.g0 s.g1 s.nx s.es := by omega
  generalize checkN s.t s.g0 s.g1 s.nx s.es = n at HF hn ⊢
  have hnz : (0 : Int) < (n : Int) := by omega
  clear h hbW hsW hh0 hh1 hc
  go_enter Try.func53, Try.ntmps53
  go_wp2_with fail
  refine HO.out.mono ?_
  rintro e w1 ⟨p, rfl, hG1, hb1⟩
  rw [HU.out] at hG1
  have HC := hid (fault_calls W.heap.size p true s w1 hG1)
  rw [HF.out] at HC
  have HB1 := hid hb1
  clear HO hG1 hb1 x0 x1 x2 x3 x4 hW
  go_wp2_with fail
  refine HC.out.mono ?_
  rintro e w2 ⟨rfl, hb2⟩
  have hb12 : Below W.heap.size W w2 := HB1.out.trans (hb2.mono HB1.out.size)
  have hq := (hb12.block (w.heap.size + 1) (by rw [HSW.out]; omega)).trans H1.out
  obtain ⟨q0, q1, q2, q3, q4, f0⟩ := five_cells hq
  have HB2 : Hid (Below w.heap.size w w2) := HBW.out.trans (hb12.mono (by rw [HSW.out]; omega))
  clear HC hb2 hq hb12 HB1
  go_wp2
  exact bodyPost_ret (v := .tuple #[zeroNV, .int .i64 n]) (by simp [results, Try.results53, go_sem, q0, q1, q2, q3, q4]) rfl ⟨rfl, below_five (b := w.heap.size + 1) HB2.out (Nat.le_succ _)⟩
set_option maxRecDepth 100000 in
set_option maxHeartbeats 8000000 in
theorem stepNR_many (s : St) (ua la : Option Addr) (uc lc : Nat) (l : List (List Int)) (w : World) (h : InW w s ua uc) (hc : checkN s.t s.g0 s.g1 s.nx s.es = 0) (hm : 8 < l.length ∨ s.t = 60) :
    Calls Try.prog 53 #[newerV s.t s.g0 s.g1 s.nx (.slice ua s.es.length uc), .slice la l.length lc] w fun e w' => e = .returned (.tuple #[zeroNV, .int .i64 2]) ∧ Below w.heap.size w w' := by
  have hI := invN_of_check h.fr hc
  obtain ⟨W, hW⟩ : ∃ W, (w.alloc (.cells (newerC s.t s.g0 s.g1 s.nx (.slice ua s.es.length uc)) 90)).alloc (.cells (newerC 0 0 0 0 (.slice none 0 0)) 90) = W := ⟨_, rfl⟩
  obtain ⟨hbW, hsW, hh0, hh1⟩ := boxes5 hW
  obtain ⟨x0, x1, x2, x3, x4, _⟩ := five_cells hh0
  have HO := hid (ofNewer_calls s.t s.g0 s.g1 s.nx ua uc s.es W (by have := hI.el; omega) (h.rows.below hbW) h.un)
  have HBW := hid hbW
  have HSW := hid hsW
  have H0 := hid hh0
  have H1 := hid hh1
  have HU := hid (st0_N h.fr h.born)
  have HF := hid (faultN s h.fr)
  rw [hc] at HF
  have hways : (8 : Int) < (l.length : Int) ∨ (¬ (8 : Int) < (l.length : Int) ∧ (s.t == 60) = true) := by
    by_cases h8 : 8 < l.length
    · exact Or.inl (by omega)
    · exact Or.inr ⟨by omega, by rcases hm with x | x; exact absurd x h8; simpa using x⟩
  clear h hbW hsW hh0 hh1 hc hm hI
  go_enter Try.func53, Try.ntmps53
  go_wp2_with fail
  refine HO.out.mono ?_
  rintro e w1 ⟨p, rfl, hG1, hb1⟩
  rw [HU.out] at hG1
  have HC := hid (fault_calls W.heap.size p true s w1 hG1)
  rw [HF.out] at HC
  have HB1 := hid hb1
  clear HO hG1 hb1 x0 x1 x2 x3 x4 hW
  go_wp2_with fail
  refine HC.out.mono ?_
  rintro e w2 ⟨rfl, hb2⟩
  have hb12 : Below W.heap.size W w2 := HB1.out.trans (hb2.mono HB1.out.size)
  have hq := (hb12.block (w.heap.size + 1) (by rw [HSW.out]; omega)).trans H1.out
  have hr := (hb12.block w.heap.size (by rw [HSW.out]; omega)).trans H0.out
  obtain ⟨q0, q1, q2, q3, q4, f0⟩ := five_cells hq
  obtain ⟨r0, _, _, _, _, _⟩ := five_cells hr
  have HB2 : Hid (Below w.heap.size w w2) := HBW.out.trans (hb12.mono (by rw [HSW.out]; omega))
  clear HC hb2 hq hr hb12 HB1
  rcases hways with h8 | ⟨h8, h60⟩
  all_goals
    go_wp2
    exact bodyPost_ret (v := .tuple #[zeroNV, .int .i64 2]) (by simp [results, Try.results53, go_sem, q0, q1, q2, q3, q4]) rfl ⟨rfl, below_five (b := w.heap.size + 1) HB2.out (Nat.le_succ _)⟩
end Go.Proofs.Ytmnddahkbmlibaa
namespace Go.Proofs.Ytmnddahkbmlibaa
open Go
section
variable {P : Program} {ops : Array Oper} {Q : Exit → Act → World → Prop} {md : Region.Mode} {S : World → Prop} {n : Nat}
def wpTill (P : Program) (md : Region.Mode) (ops : Array Oper) (Q : Exit → Act → World → Prop) (S : World → Prop) (n : Nat) : Nat → Array Bool → Act → World → Prop
  | 0, listed, a, w => Region.ready md ops listed = [] ∧ Q .normal a w
  | fuel + 1, listed, a, w =>
    (Region.ready md ops listed = [] → Q .normal a w) ∧
    ∀ i ∈ Region.ready md ops listed, wpOp P ops Q i (fun a' w' => (i ≠ n → S w') ∧ wpTill P md ops Q S n fuel (listed.setIfInBounds i true) a' w') a w
theorem wpAny_of_till : ∀ (fuel : Nat) (listed : Array Bool) (a : Act) (w : World), wpTill P md ops Q S n fuel listed a w → wpAny P md ops Q fuel listed a w
  | 0, _, _, _, h => h
  | fuel + 1, _, _, _, h => ⟨h.1, fun i hi => wpOp_mono (fun a' w' h' => wpAny_of_till fuel _ a' w' h'.2) (h.2 i hi)⟩
def waits (md : Region.Mode) (ops : Array Oper) (i : Nat) (U : List Nat) : Bool :=
  U.all fun j => j == i || (match ops[j]? with | some o => o.after.any fun e => Region.binds md e && U.contains e.on | none => false)
theorem waits_spec {i : Nat} {U : List Nat} {listed : Array Bool} (hw : waits md ops i U = true) (hU : ∀ j ∈ U, listed.getD j true = false) {j : Nat} (hj : j ∈ Region.ready md ops listed) (hne : j ≠ i) : j ∉ U := by
  intro hm
  unfold waits at hw
  have h1 := List.all_eq_true.1 hw j hm
  obtain ⟨_, oj, hoj, hall⟩ := mem_ready.1 hj
  rw [hoj] at h1
  simp only [Bool.or_eq_true, beq_iff_eq, hne, false_or] at h1
  obtain ⟨e, he, hb⟩ := Array.any_eq_true'.1 h1
  rw [Bool.and_eq_true] at hb
  have h2 := hall e he hb.1
  have h3 := hU e.on (by simpa using hb.2)
  rcases Nat.lt_or_ge e.on listed.size with h' | h'
  · simp [h'] at h2 h3; rw [h3] at h2; cases h2
  · simp [Array.getElem?_eq_none h'] at h2
theorem wpTill_first {i : Nat} {oi : Oper} {v : Value} (hi : ops[i]? = some oi) (hsel : ∀ (j : Nat) (o : Oper) cs b, ops[j]? = some o → o.op ≠ .select cs b)
    (hQ : ∀ c a w, Q (.panic c) (a.put oi.dst v) w → Q (.panic c) a w) {U : List Nat} (hin : i ≠ n) (hnU : n ∈ U) (hwt : waits md ops i U = true) :
    ∀ (fuel : Nat) (listed : Array Bool) (a : Act) (w : World), (∀ j ∈ U, listed.getD j true = false) →
      (∀ j oj, ops[j]? = some oj → j ≠ i → listed.getD j true = false → (∀ e ∈ oj.after, Region.binds md e = true → e.on ≠ i) → oi.apart ops oj = true) →
      i ∈ Region.ready md ops listed → YieldsIf P ops S oi v a → S w →
      wpTill P md ops Q S n fuel (listed.setIfInBounds i true) (a.put oi.dst v) w → wpTill P md ops Q S n (fuel + 1) listed a w := by
  intro fuel
  induction fuel with
  | zero =>
    intro listed a w _ _ hr hy hS H
    refine ⟨fun h => (by rw [h] at hr; cases hr), fun j hj => ?_⟩
    by_cases hji : j = i
    · subst hji; exact hy.wpOp hi hS ⟨fun _ => hS, H⟩
    · have := ready_mono hj hji
      rw [H.1] at this
      cases this
  | succ fuel ih =>
    intro listed a w hU hfree hr hy hS H
    refine ⟨fun h => (by rw [h] at hr; cases hr), fun j hj => ?_⟩
    by_cases hji : j = i
    · subst hji; exact hy.wpOp hi hS ⟨fun _ => hS, H⟩
    · have h1 := H.2 j (ready_mono hj hji)
      have hjU := waits_spec hwt hU hj hji
      have hjn : j ≠ n := fun e => hjU (by rw [e]; exact hnU)
      obtain ⟨hjun, oj, hoj, hall⟩ := mem_ready.1 hj
      have hnot : ∀ e ∈ oj.after, Region.binds md e = true → e.on ≠ i := fun e he hb heq => by
        have h1 := hall e he hb
        have h0 := (mem_ready.1 hr).1
        rw [heq] at h1
        rcases Nat.lt_or_ge i listed.size with h' | h'
        · simp [h'] at h0 h1; rw [h0] at h1; cases h1
        · simp [Array.getElem?_eq_none h'] at h1
      have h2 := wpOp_putIf hoj (hfree j oj hoj hji hjun hnot) (fun cs b => hsel i oi cs b hi) (fun cs b => hsel j oj cs b hoj) hQ hy h1
      have hfree' : ∀ k ok, ops[k]? = some ok → k ≠ i → (listed.setIfInBounds j true).getD k true = false →
          (∀ e ∈ ok.after, Region.binds md e = true → e.on ≠ i) → oi.apart ops ok = true := fun k ok hk hki hun hno => by
        refine hfree k ok hk hki ?_ hno
        by_cases hjk : j = k
        · subst hjk; exact hjun
        · rw [getD_set_ne true hjk] at hun; exact hun
      have hU' : ∀ k ∈ U, (listed.setIfInBounds j true).getD k true = false := fun k hk => by
        rw [getD_set_ne true (fun e => hjU (by rw [e]; exact hk))]
        exact hU k hk
      refine wpOp_mono (fun a' w' h3 => ⟨fun _ => h3.2.1 hjn, ih (listed.setIfInBounds j true) a' w' hU' hfree' (ready_mono hr (Ne.symm hji)) h3.1 (h3.2.1 hjn) ?_⟩) h2
      rw [Array.setIfInBounds_comm _ _ hji]
      exact h3.2.2
theorem wpTill_take {i : Nat} (U : List Nat) {oi : Oper} {v : Value} {fuel : Nat} {listed : Array Bool} {a : Act} {w : World} (hi : ops[i]? = some oi)
    (hs : Region.noSelect ops = true) (hf : Region.free md ops listed i = true) (hr : (Region.ready md ops listed).contains i = true) (hw : (waits md ops i U && (U.contains n && (!(i == n) && U.all fun j => !(listed.getD j true)))) = true)
    (hQ : ∀ c a w, Q (.panic c) (a.put oi.dst v) w → Q (.panic c) a w) (hy : YieldsIf P ops S oi v a) (hS : S w)
    (h : wpTill P md ops Q S n fuel (listed.setIfInBounds i true) (a.put oi.dst v) w) : wpTill P md ops Q S n (fuel + 1) listed a w := by
  simp only [Bool.and_eq_true, Bool.not_eq_true', beq_eq_false_iff_ne, List.all_eq_true] at hw
  exact wpTill_first hi (Region.noSelect_spec hs) hQ hw.2.2.1 (by simpa using hw.2.1) hw.1 fuel listed a w (fun j hj => hw.2.2.2 j hj) (Region.free_spec hi hf) (by simpa using hr) hy hS h
theorem wpTill_one {i : Nat} {o : Oper} {fuel : Nat} {listed : Array Bool} {a : Act} {w : World} (hr : Region.ready md ops listed = [i]) (ho : ops[i]? = some o)
    (h : ∀ K' : Act → World → Prop, Shut (∀ a w, (i ≠ n → S w) → wpTill P md ops Q S n fuel (listed.setIfInBounds i true) a w → K' a w) → if Region.wanted o (yielded ops a.tmps) = true then Oper.wp P o a w K' Q else K' (a.put o.dst undef) w) :
    wpTill P md ops Q S n (fuel + 1) listed a w := by
  refine ⟨fun h0 => (by rw [h0] at hr; cases hr), fun j hj => ?_⟩
  rw [hr, List.mem_singleton] at hj
  subst hj
  exact wpOp_step ho (fun K' hK => h K' (fun a w hS hW => hK a w ⟨hS, hW⟩))
theorem wpTill_done {listed : Array Bool} {a : Act} {w : World} (hr : Region.ready md ops listed = []) (h : Q .normal a w) : ∀ fuel, wpTill P md ops Q S n fuel listed a w
  | 0 => ⟨hr, h⟩
  | _ + 1 => ⟨fun _ => h, by rw [hr]; simp⟩
theorem wp_region_till (n : Nat) {id : Nat} {a : Act} {w : World} (hm : P.follows .mixedOrders = true) (hS : S w.drew)
    (h : S w.drew → wpTill P .any ops Q S n ops.size (Array.replicate ops.size false) a w.drew) : (Code.region id ops true).wp P Q a w :=
  wp_region_any hm (wpAny_of_till _ _ _ _ (h hS))
end
end Go.Proofs.Ytmnddahkbmlibaa
