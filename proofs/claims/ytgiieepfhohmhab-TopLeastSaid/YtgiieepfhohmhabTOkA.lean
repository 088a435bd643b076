/- A tick under way: what one wishes. -/
import Derived.Laws.StructEq
import Derived.Test.YtgiieepfhohmhabTElB
import Derived.Test.YtgiieepfhohmhabTMemA
import Derived.Test.YtgiieepfhohmhabTHdA
import Derived.Test.YtgiieepfhohmhabTGiA
import Derived.Test.YtgiieepfhohmhabTInvZ
namespace Go.Proofs.Ytgiieepfhohmhab
open Go.RowKit Go.Maps
theorem Counts.look {w : World} {B n : Nat} {f : Int → Int} (h : Counts w B n f) {id : Int} (hwf : (Lit.int .i64 id).wf = true) :
    (Instr.lookup 80 (.map (some B)) (.int .i64 id) false).run Try.prog w = .ok (.int .i64 (f id)) w := by
  obtain ⟨D, h1, h2, h3⟩ := h
  obtain ⟨c, hr, hat, _⟩ := h1.lookup_int intKey Try.underlying80 Try.underlying3 (intZero _) (keyOf_int_mk Try.underlying3 hwf)
  have := (h3 id hwf).symm.trans hat
  simp only [DataW.lit.injEq, Lit.int.injEq, true_and] at this
  rw [hr, this]
def wishR (es : List (List Int)) (was : Int → Int) (u : List Int) (v : Value) : Prop := ∃ x y : Int, v = .tuple #[.agg #[.int .i64 x, .int .i64 y], .bool (wishE es was u).isSome] ∧ ∀ q, wishE es was u = some q → q = (x, y)
theorem wishE_none {es : List (List Int)} {was : Int → Int} {u : List Int} (h : ¬ (headB es u = true ∧ was (fld u 0) ≠ 0 ∧ Pl.eSpeed (fld u 2) ≠ 0)) : wishE es was u = none := by
  unfold wishE
  rw [if_neg (fun x => h ⟨x.1, x.2.1, x.2.2.1⟩)]
theorem wishE_go {es : List (List Int)} {was : Int → Int} {u : List Int} (ha : AimU es u) (h0 : fld u 6 ≠ 1 → ¬ (fld u 6 = 2 ∨ fld u 6 = 3) → idxZ (isId (fld u 9)) es < 0) :
    wishE es was u = if was (fld u 0) ≠ 0 ∧ (goX es u ≠ fld u 3 ∨ goY es u ≠ fld u 4) then some (goX es u, goY es u) else none := by
  have stay : (goX es u = fld u 3 ∧ goY es u = fld u 4) → ¬ (headB es u = true ∧ was (fld u 0) ≠ 0 ∧ Pl.eSpeed (fld u 2) ≠ 0) → wishE es was u = if was (fld u 0) ≠ 0 ∧ (goX es u ≠ fld u 3 ∨ goY es u ≠ fld u 4) then some (goX es u, goY es u) else none := fun h hn => by
    rw [wishE_none hn, if_neg (fun x => x.2.elim (fun y => y h.1) (fun y => y h.2))]
  have go : goX es u = Pl.nearZ (fld u 3) (headX es u) → goY es u = Pl.nearZ (fld u 4) (headY es u) → headB es u = true → Pl.eSpeed (fld u 2) ≠ 0 → wishE es was u = if was (fld u 0) ≠ 0 ∧ (goX es u ≠ fld u 3 ∨ goY es u ≠ fld u 4) then some (goX es u, goY es u) else none := fun hx hy hb hs => by
    rw [hx, hy]
    unfold wishE
    by_cases h : was (fld u 0) ≠ 0 ∧ (Pl.nearZ (fld u 3) (headX es u) ≠ fld u 3 ∨ Pl.nearZ (fld u 4) (headY es u) ≠ fld u 4)
    · rw [if_pos ⟨hb, h.1, hs, h.2⟩, if_pos h]
    · rw [if_neg (fun x => h ⟨x.2.1, x.2.2.2⟩), if_neg h]
  by_cases hs : Pl.eSpeed (fld u 2) = 0
  · exact stay ⟨by unfold goX; rw [if_pos hs], by unfold goY; rw [if_pos hs]⟩ (fun h => h.2.2 hs)
  by_cases h1 : fld u 6 = 1
  · exact go (by unfold goX headX; rw [if_neg hs, if_pos h1, if_pos h1]) (by unfold goY headY; rw [if_neg hs, if_pos h1, if_pos h1]) (by unfold headB; rw [if_pos h1]) hs
  by_cases h23 : fld u 6 = 2 ∨ fld u 6 = 3
  · have hi := (ha h23).1
    cases hn : nearE u (tgtE es u) with
    | false => exact go (by unfold goX headX; rw [if_neg hs, if_neg h1, if_pos ⟨hi, hn⟩, if_neg h1, if_pos h23]) (by unfold goY headY; rw [if_neg hs, if_neg h1, if_pos ⟨hi, hn⟩, if_neg h1, if_pos h23]) (by unfold headB; rw [if_neg h1, if_pos h23, hn]; rfl) hs
    | true =>
      have hne : ¬ (0 ≤ idxZ (isId (fld u 9)) es ∧ nearE u (tgtE es u) = false) := fun h => by rw [hn] at h; cases h.2
      exact stay ⟨by unfold goX; rw [if_neg hs, if_neg h1, if_neg hne], by unfold goY; rw [if_neg hs, if_neg h1, if_neg hne]⟩ (fun h => by
        have := h.1
        unfold headB at this
        rw [if_neg h1, if_pos h23, hn] at this
        cases this)
  · have hi := h0 h1 h23
    have hne : ¬ (0 ≤ idxZ (isId (fld u 9)) es ∧ nearE u (tgtE es u) = false) := fun h => by omega
    exact stay ⟨by unfold goX; rw [if_neg hs, if_neg h1, if_neg hne], by unfold goY; rw [if_neg hs, if_neg h1, if_neg hne]⟩ (fun h => by
      have := h.1
      unfold headB at this
      rw [if_neg h1, if_neg h23] at this
      cases this)
set_option maxRecDepth 100000 in
set_option maxHeartbeats 8000000 in
theorem wish_calls (base p : Nat) (s : St) (was : Int → Int) (u : List Int) (w : World) (hn : s.es.length ≤ 100) (hu : OnU u) (ha : AimU s.es u) (hh : headB s.es u = true → (0 ≤ headX s.es u ∧ headX s.es u < 12) ∧ 0 ≤ headY s.es u ∧ headY s.es u < 12) (hwf : (Lit.int .i64 (fld u 0)).wf = true) (ho : 0 ≤ idxZ (isId (fld u 9)) s.es → OnU (tgtE s.es u)) (h0 : fld u 6 ≠ 1 → ¬ (fld u 6 = 2 ∨ fld u 6 = 3) → idxZ (isId (fld u 9)) s.es < 0) (hw0 : 0 ≤ was (fld u 0)) (h : GmE base w p s was) :
    Calls Try.prog 70 #[.pointer (some ⟨p, 0, none⟩), entV u] w fun e w' => ∃ v, e = .returned v ∧ wishR s.es was u v ∧ Below w.heap.size w w' := by
  have HG := hid h
  obtain ⟨ev, fv, bv, B, hGm⟩ := h
  have hlt := hGm.lt
  have hBlt : B < w.heap.size := by
    obtain ⟨es, ck, hm⟩ := hGm.ct.isMap
    exact (Array.getElem?_eq_some_iff.1 hm).1
  obtain ⟨ea, c, rfl, hcap, hrecs, hg0'⟩ := hGm.er.open
  obtain ⟨W, hW⟩ : ∃ W, (w.alloc (.cells (entC u) 63)).alloc (.cells #[.int .i64 0, .int .i64 0] 119) = W := ⟨_, rfl⟩
  have hbW : Below w.heap.size w W := by rw [← hW]; exact ((Below.refl _ w).alloc (Nat.le_refl _) _).alloc (by simp [go_sem]) _
  have hsW : W.heap.size = w.heap.size + 2 := by rw [← hW]; simp [go_sem]
  have hh0 : W.heap[w.heap.size]? = some (.cells (entC u) 63) := by
    rw [← hW, heap_alloc_old _ _ (by simp [go_sem])]
    exact heap_alloc_new w _
  have hh1 : W.heap[w.heap.size + 1]? = some (.cells #[.int .i64 0, .int .i64 0] 119) := by
    have e : w.heap.size + 1 = (w.alloc (.cells (entC u) 63)).heap.size := by simp [go_sem]
    rw [← hW, e]
    exact heap_alloc_new _ _
  have c0 : ∀ j, W.cell? ⟨w.heap.size, j, none⟩ = (entC u)[j]? := fun j => cell_of_row W _ j _ _ _ hh0
  have x0 : W.cell? ⟨w.heap.size, 0, none⟩ = some (.int .i64 (fld u 0)) := c0 0
  have x1 : W.cell? ⟨w.heap.size, 1, none⟩ = some (.int .i64 (fld u 1)) := c0 1
  have x2 : W.cell? ⟨w.heap.size, 2, none⟩ = some (.int .i64 (fld u 2)) := c0 2
  have x3 : W.cell? ⟨w.heap.size, 3, none⟩ = some (.int .i64 (fld u 3)) := c0 3
  have x4 : W.cell? ⟨w.heap.size, 4, none⟩ = some (.int .i64 (fld u 4)) := c0 4
  have x5 : W.cell? ⟨w.heap.size, 5, none⟩ = some (.int .i64 (fld u 5)) := c0 5
  have x6 : W.cell? ⟨w.heap.size, 6, none⟩ = some (.int .i64 (fld u 6)) := c0 6
  have x7 : W.cell? ⟨w.heap.size, 7, none⟩ = some (.int .i64 (fld u 7)) := c0 7
  have x8 : W.cell? ⟨w.heap.size, 8, none⟩ = some (.int .i64 (fld u 8)) := c0 8
  have x9 : W.cell? ⟨w.heap.size, 9, none⟩ = some (.int .i64 (fld u 9)) := c0 9
  have d5 : W.cell? ⟨p, 5, none⟩ = some (.slice ea s.es.length c) := (hGm.below hbW).cell 5
  have HBW := hid hbW
  have HSW := hid hsW
  have H0 := hid hh0
  have H1 := hid hh1
  have hgo : fld u 6 = 1 → (0 ≤ fld u 7 ∧ fld u 7 < 12) ∧ 0 ≤ fld u 8 ∧ fld u 8 < 12 := fun h1 => by
    have := hh (by unfold headB; rw [if_pos h1])
    unfold headX headY at this
    rw [if_pos h1, if_pos h1] at this
    exact this
  have HC := hid (fun W' (hW' : Recs W' ea 10 s.es) => wishAt_calls s.es ea c u W' hn hu hgo ho hW')
  have HR := hid (hrecs.below hbW)
  have HM := hid (hGm.below hbW)
  have HWF := hid hwf
  have HE := hid (@wishE_go s.es was u ha h0)
  have HW0 := hid hw0
  clear hbW hsW hh0 hh1 c0 hu ha hGm hh hwf ho h0 hw0 hgo hrecs hg0' hcap
  go_enter Try.func70, Try.ntmps70
  go_wp2_with fail
  go_cut [6, 7] (fun r6 r7 wx => r6 = .int .i64 (goX s.es u) ∧ r7 = .int .i64 (goY s.es u) ∧ Hid (Below W.heap.size W wx))
  case first =>
    go_region_with (go_at_call 86; refine (HC.out _ (HR.out.below (Below.refl _ _).drew)).mono ?_; rintro e w2 ⟨rfl, hb2⟩)
    all_goals
      have HB2 : Hid (Below W.heap.size W w2) := (Below.refl _ _).drew.trans hb2
      clear hb2
      go_wp2
      go_meet
      exact ⟨rfl, rfl, HB2⟩
  case rest =>
  obtain ⟨rfl, rfl, hcut⟩ := hcut
  have hb2 := hcut.out
  generalize wc = w2 at hb2 ⊢
  clear hcut HC HR x0 x1 x2 x3 x4 x5 x6 x7 x8 x9 d5 hW
  generalize hX : goX s.es u = X at HE ⊢
  generalize hY : goY s.es u = Y at HE ⊢
  have hs2 : w.heap.size + 2 ≤ w2.heap.size := by have := hb2.size; rw [HSW.out] at this; exact this
  have HB2 : Hid (Below w.heap.size w w2) := HBW.out.trans (hb2.mono (by rw [HSW.out]; omega))
  have hq := (hb2.block (w.heap.size + 1) (by rw [HSW.out]; omega)).trans H1.out
  have q0 := cell_of_row w2 _ 0 _ _ _ hq
  have q1 := cell_of_row w2 _ 1 _ _ _ hq
  have qf0 := frozen_of_row w2 (w.heap.size + 1) 0 _ _ hq
  have qf1 := frozen_of_row w2 (w.heap.size + 1) 1 _ _ hq
  have hr := (hb2.block w.heap.size (by rw [HSW.out]; omega)).trans H0.out
  have hm := HM.out.below hb2
  have KX : ∀ j, w2.cell? ⟨w.heap.size, j, none⟩ = (entC u)[j]? := fun j => cell_of_row w2 _ j _ _ _ hr
  have y0 : w2.cell? ⟨w.heap.size, 0, none⟩ = some (.int .i64 (fld u 0)) := KX 0
  have y3 : w2.cell? ⟨w.heap.size, 3, none⟩ = some (.int .i64 (fld u 3)) := KX 3
  have y4 : w2.cell? ⟨w.heap.size, 4, none⟩ = some (.int .i64 (fld u 4)) := KX 4
  have S6 : w2.cell? ⟨p, 6, none⟩ = some (.map (some B)) := hm.cell 6
  obtain ⟨n, hn0⟩ : ∃ n, was (fld u 0) = n := ⟨_, rfl⟩
  have SK : (Instr.lookup 80 (.map (some B)) (.int .i64 (fld u 0)) false).run Try.prog w2.drew = .ok (.int .i64 n) w2.drew := by
    rw [← hn0]
    exact (hm.ct.other (w' := w2.drew) rfl).look HWF.out
  rw [hn0] at HE HW0
  clear KX hq hr hm hX hY hn0 hb2
  have fin : ∀ b : Bool, (wishE s.es was u).isSome = b → (∀ q, wishE s.es was u = some q → q = (X, Y)) → wishR s.es was u (.tuple #[.agg #[.int .i64 X, .int .i64 Y], .bool b]) := fun b h1 h2 => ⟨X, Y, by rw [h1], h2⟩
  have HF := hid fin
  clear fin
  by_cases hz : n = 0
  · subst hz
    have HS : Hid (wishE s.es was u = none) := by
      show _ = _
      rw [HE.out, if_neg (fun h => h.1 rfl)]
    go_wp2_with fail
    go_region
    all_goals
      go_wp2
      exact bodyPost_ret (v := .tuple #[.agg #[.int .i64 X, .int .i64 Y], .bool false]) (by simp [results, Try.results70, go_sem, q0, q1]) rfl ⟨_, rfl, HF.out false (by rw [HS.out]; rfl) (fun q h => by rw [HS.out] at h; cases h), (HB2.out.drew.setCell (p := ⟨w.heap.size + 1, 0, none⟩) (Nat.le_succ _) _).setCell (p := ⟨w.heap.size + 1, 1, none⟩) (Nat.le_succ _) _⟩
  have hpos : 0 < n := by have := HW0.out; omega
  cases h3 : (X == fld u 3) with
  | false =>
    have HS : Hid (wishE s.es was u = some (X, Y)) := by
      show _ = _
      rw [HE.out, if_pos ⟨hz, Or.inl (by simpa using h3)⟩]
    have n3 : (X != fld u 3) = true := by rw [bne, h3]; rfl
    clear h3 HE hz
    go_wp2_with fail
    go_region
    all_goals
      go_wp2
      exact bodyPost_ret (v := .tuple #[.agg #[.int .i64 X, .int .i64 Y], .bool true]) (by simp [results, Try.results70, go_sem, q0, q1]) rfl ⟨_, rfl, HF.out true (by rw [HS.out]; rfl) (fun q h => by rw [HS.out] at h; cases h; rfl), (HB2.out.drew.setCell (p := ⟨w.heap.size + 1, 0, none⟩) (Nat.le_succ _) _).setCell (p := ⟨w.heap.size + 1, 1, none⟩) (Nat.le_succ _) _⟩
  | true =>
    have n3 : (X != fld u 3) = false := by rw [bne, h3]; rfl
    cases h4 : (Y == fld u 4)
    · have HS : Hid (wishE s.es was u = some (X, Y)) := by
        show _ = _
        rw [HE.out, if_pos ⟨hz, Or.inr (by simpa using h4)⟩]
      have n4 : (Y != fld u 4) = true := by rw [bne, h4]; rfl
      clear h3 h4 HE hz
      go_wp2_with fail
      go_region
      all_goals
        go_wp2
        exact bodyPost_ret (v := .tuple #[.agg #[.int .i64 X, .int .i64 Y], .bool true]) (by simp [results, Try.results70, go_sem, q0, q1]) rfl ⟨_, rfl, HF.out true (by rw [HS.out]; rfl) (fun q h => by rw [HS.out] at h; cases h; rfl), (HB2.out.drew.setCell (p := ⟨w.heap.size + 1, 0, none⟩) (Nat.le_succ _) _).setCell (p := ⟨w.heap.size + 1, 1, none⟩) (Nat.le_succ _) _⟩
    · have HS : Hid (wishE s.es was u = none) := by
        show _ = _
        rw [HE.out, if_neg (by rw [beq_iff_eq] at h3 h4; exact fun h => h.2.elim (fun x => x h3) (fun x => x h4))]
      have n4 : (Y != fld u 4) = false := by rw [bne, h4]; rfl
      clear h3 h4 HE hz
      go_wp2_with fail
      go_region
      all_goals
        go_wp2
        exact bodyPost_ret (v := .tuple #[.agg #[.int .i64 X, .int .i64 Y], .bool false]) (by simp [results, Try.results70, go_sem, q0, q1]) rfl ⟨_, rfl, HF.out false (by rw [HS.out]; rfl) (fun q h => by rw [HS.out] at h; cases h), (HB2.out.drew.setCell (p := ⟨w.heap.size + 1, 0, none⟩) (Nat.le_succ _) _).setCell (p := ⟨w.heap.size + 1, 1, none⟩) (Nat.le_succ _) _⟩
end Go.Proofs.Ytgiieepfhohmhab
namespace Go.Proofs.Ytgiieepfhohmhab
open Go.RowKit Go.Maps
open Go.ChangeMaps (setBlock heap_setBlock_same heap_setBlock_other)
abbrev plV (q : Int × Int) : Value := .agg #[.int .i64 q.1, .int .i64 q.2]
theorem equal_place (q r : Int × Int) (w : World) : (Op.equal 119 (plV q) (plV r)).run Try.prog w = .ok (decide (q = r)) w := by
  obtain ⟨x, y⟩ := q
  obtain ⟨a, b⟩ := r
  have u3 := Try.underlying3
  have a3 := Try.isAgg3
  have z3 := Try.sizeOf3
  have hS : Try.prog.underlying 119 = some (.struct (Try.prog.fieldsOf 119)) := by kernel_rfl
  have hp : Try.prog.stoodInHeld 119 = false := by kernel_rfl
  unfold Op.equal Op.maxDepth
  rw [show (10000 : Nat) = 9999 + 1 from rfl, run_equalIn_agg w 9999 119 _ _ hS hp]
  simp only [Program.fieldsOf, Try.underlying119]
  go_simp
  by_cases h1 : x = a <;> by_cases h2 : y = b <;> simp [h1, h2]
theorem check_place (e : Bool) (q : Int × Int) (w : World) : (Instr.checkKey e 10000 119 (plV q)).run Try.prog w = .ok () w := by kernel_rfl
theorem zero_place (w : World) : (zeroValue 119).run Try.prog w = .ok (plV (0, 0)) w := by kernel_rfl
theorem check_int (e : Bool) (z : Int) (w : World) : (Instr.checkKey e 10000 3 (.int .i64 z)).run Try.prog w = .ok () w := by kernel_rfl
section
variable {κ : Type}
def entF (c : κ → Value) (l : List (κ × Value)) (i : Nat) : List MapEntry :=
  match l with
  | [] => []
  | q :: r => ⟨c q.1, q.2, i⟩ :: entF c r (i + 1)
def PM (w : World) (B : Nat) (c : κ → Value) (l : List (κ × Value)) : Prop := w.heap[B]? = some (.map (entF c l 0).toArray l.length)
theorem entF_length (c : κ → Value) : ∀ (l : List (κ × Value)) (i : Nat), (entF c l i).length = l.length
  | [], _ => rfl
  | q :: r, i => by rw [entF, List.length_cons, List.length_cons, entF_length c r (i + 1)]
theorem entF_append (c : κ → Value) (l : List (κ × Value)) (q : κ × Value) : ∀ i, entF c (l ++ [q]) i = entF c l i ++ [⟨c q.1, q.2, i + l.length⟩] := by
  induction l with
  | nil => intro i; rfl
  | cons p r ih =>
    intro i
    rw [List.cons_append, entF, entF, ih (i + 1), List.cons_append, List.length_cons]
    congr 4
    omega
theorem entF_get (c : κ → Value) : ∀ (l : List (κ × Value)) (i j : Nat), (entF c l i)[j]? = (l[j]?).map fun q => ⟨c q.1, q.2, i + j⟩
  | [], _, _ => rfl
  | q :: r, i, 0 => rfl
  | q :: r, i, j + 1 => by
    rw [entF, List.getElem?_cons_succ, List.getElem?_cons_succ, entF_get c r (i + 1) j]
    have : i + 1 + j = i + (j + 1) := by omega
    rw [this]
theorem entF_set (c : κ → Value) (k : κ) (v : Value) (l : List (κ × Value)) (i j : Nat) : (entF c l i).set j ⟨c k, v, i + j⟩ = entF c (l.set j (k, v)) i := by
  apply List.ext_getElem?
  intro m
  rw [List.getElem?_set, entF_get, entF_get, entF_length, List.getElem?_set]
  by_cases e : j = m
  · subst e
    by_cases h : j < l.length <;> simp [h]
  · simp [e]
theorem entF_born (c : κ → Value) : ∀ (l : List (κ × Value)) (i j : Nat), j < l.length → (entF c l i).findIdx? (fun e => ((e.born : Nat) : Int) == ((i + j : Nat) : Int)) = some j
  | [], _, _, h => by simp at h
  | q :: r, i, 0, _ => by simp [entF, List.findIdx?_cons]
  | q :: r, i, j + 1, h => by
    rw [entF, List.findIdx?_cons]
    have h1 : ((((i : Nat) : Int)) == ((i + (j + 1) : Nat) : Int)) = false := by simp; omega
    simp only [h1]
    have e : i + (j + 1) = i + 1 + j := by omega
    rw [e, entF_born c r (i + 1) j (by simpa using h)]
    rfl
end
section
variable {κ : Type} [DecidableEq κ]
def seekL (k : κ) : List (κ × Value) → Nat → Option (Nat × Value)
  | [], _ => none
  | q :: r, i => if k = q.1 then some (i, q.2) else seekL k r (i + 1)
def getL (k : κ) (l : List (κ × Value)) : Option Value := (seekL k l 0).map (·.2)
def putL (k : κ) (v : Value) (l : List (κ × Value)) : List (κ × Value) :=
  match seekL k l 0 with
  | some (i, _) => l.set i (k, v)
  | none => l ++ [(k, v)]
def laidL (k : κ) (z : Value) (l : List (κ × Value)) : List (κ × Value) :=
  match seekL k l 0 with
  | some _ => l
  | none => l ++ [(k, z)]
theorem seekL_lt {k : κ} : ∀ {l : List (κ × Value)} {i j : Nat} {v : Value}, seekL k l i = some (j, v) → i ≤ j ∧ j < i + l.length ∧ l[j - i]? = some (k, v)
  | [], i, j, v, h => by simp [seekL] at h
  | q :: r, i, j, v, h => by
    unfold seekL at h
    split at h
    · rename_i e
      cases h
      refine ⟨Nat.le_refl _, by simp, ?_⟩
      rw [Nat.sub_self]
      simp [e]
    · obtain ⟨h1, h2, h3⟩ := seekL_lt h
      refine ⟨by omega, by simp only [List.length_cons]; omega, ?_⟩
      have e : j - i = (j - (i + 1)) + 1 := by omega
      rw [e, List.getElem?_cons_succ]
      exact h3
theorem seekL_shift (k : κ) (l : List (κ × Value)) (i n : Nat) : seekL k l (i + n) = (seekL k l i).map (fun q => (q.1 + n, q.2)) := by
  induction l generalizing i with
  | nil => rfl
  | cons q r ih =>
    unfold seekL
    by_cases h : k = q.1
    · simp [h]
    · rw [if_neg h, if_neg h, ← ih (i + 1)]
      congr 1
      omega
theorem seekL_append (k : κ) (l m : List (κ × Value)) (i : Nat) : seekL k (l ++ m) i = (seekL k l i).or (seekL k m (i + l.length)) := by
  induction l generalizing i with
  | nil => simp [seekL]
  | cons q r ih =>
    rw [List.cons_append, seekL, seekL]
    by_cases h : k = q.1
    · simp [h]
    · have e : i + 1 + r.length = i + (q :: r).length := by simp only [List.length_cons]; omega
      rw [if_neg h, if_neg h, ih (i + 1), e]
theorem getL_append (k : κ) (l m : List (κ × Value)) : getL k (l ++ m) = (getL k l).or (getL k m) := by
  unfold getL
  rw [seekL_append, Nat.zero_add]
  have := seekL_shift k m 0 l.length
  rw [Nat.zero_add] at this
  rw [this]
  cases seekL k l 0 <;> cases seekL k m 0 <;> rfl
theorem getL_nil (k : κ) : getL k ([] : List (κ × Value)) = none := rfl
theorem getL_cons (k : κ) (q : κ × Value) (r : List (κ × Value)) : getL k (q :: r) = if k = q.1 then some q.2 else getL k r := by
  unfold getL
  rw [seekL]
  split
  · rfl
  · have := seekL_shift k r 0 1
    rw [this]
    cases seekL k r 0 <;> rfl
theorem getL_set {k : κ} {v : Value} : ∀ {l : List (κ × Value)} {i j : Nat} {u : Value}, seekL k l i = some (j, u) → ∀ k', getL k' (l.set (j - i) (k, v)) = if k' = k then some v else getL k' l
  | [], i, j, u, h => by simp [seekL] at h
  | q :: r, i, j, u, h => by
    intro k'
    unfold seekL at h
    split at h
    · rename_i e
      cases h
      rw [Nat.sub_self, List.set_cons_zero, getL_cons, getL_cons, ← e]
      by_cases h' : k' = k <;> simp [h']
    · rename_i e
      obtain ⟨h1, _, _⟩ := seekL_lt h
      have hj : j - i = (j - (i + 1)) + 1 := by omega
      rw [hj, List.set_cons_succ, getL_cons, getL_cons, getL_set h k']
      by_cases h' : k' = q.1
      · simp [h']
        intro x
        exact absurd x.symm e
      · simp [h']
theorem getL_put (k k' : κ) (v : Value) (l : List (κ × Value)) : getL k' (putL k v l) = if k' = k then some v else getL k' l := by
  unfold putL
  cases h : seekL k l 0 with
  | none =>
    simp only
    rw [getL_append, getL_cons, getL_nil]
    by_cases e : k' = k
    · subst e
      have : getL k' l = none := by unfold getL; rw [h]; rfl
      simp [this]
    · simp [e]
  | some q =>
    obtain ⟨j, u⟩ := q
    exact getL_set h k'
theorem getL_laid (k k' : κ) (z : Value) (l : List (κ × Value)) : (getL k' (laidL k z l)).getD z = (getL k' l).getD z := by
  unfold laidL
  cases h : seekL k l 0 with
  | some q => rfl
  | none =>
    simp only
    rw [getL_append, getL_cons, getL_nil]
    cases getL k' l with
    | some v => rfl
    | none => by_cases e : k' = k <;> simp [e]
def Finds (kt : TypeId) (c : κ → Value) : Prop := ∀ (k : κ) (l : List (κ × Value)) (w : World), (Instr.findKey kt (c k) (entF c l 0)).run Try.prog w = .ok (seekL k l 0) w
end
theorem findAsking_place (q : Int × Int) (w : World) : ∀ (l : List ((Int × Int) × Value)) (i : Nat), (Instr.findAsking 119 (plV q) (entF plV l i) i).run Try.prog w = .ok (seekL q l i) w
  | [], i => rfl
  | p :: r, i => by
    rw [entF, Instr.findAsking]
    simp only [Sem.run_bind, equal_place, Result.andThen_ok, seekL]
    by_cases h : q = p.1
    · simp [h]
    · simp [h, findAsking_place q w r (i + 1)]
theorem findNow_place (q : Int × Int) (l : List ((Int × Int) × Value)) (i : Nat) : ∀ fs, Instr.findNow (.struct fs) (plV q) (entF plV l i) i = if l = [] then some none else none := by
  intro fs
  cases l with
  | nil => rfl
  | cons p r => rfl
theorem finds_place : Finds 119 plV := fun q l w => by
  unfold Instr.findKey
  simp only [Sem.run_bind, run_underlying Try.underlying119, Result.andThen_ok, findNow_place]
  cases l with
  | nil => rfl
  | cons p r =>
    simp only [reduceCtorEq, if_false]
    exact findAsking_place q w (p :: r) 0
abbrev inV (z : Int) : Value := .int .i64 z
theorem findNow_int (z : Int) (k : IntKind) : ∀ (l : List (Int × Value)) (i : Nat), Instr.findNow (.int k) (inV z) (entF inV l i) i = some (seekL z l i)
  | [], _ => rfl
  | p :: r, i => by
    rw [entF, Instr.findNow, seekL]
    have : Instr.sameNow (.int k) (inV z) (inV p.1) = some (z == p.1) := by simp [Instr.sameNow]
    rw [this]
    by_cases h : z = p.1
    · simp [h]
    · have h2 : (z == p.1) = false := by simpa using h
      rw [h2, if_neg h]
      exact findNow_int z k r (i + 1)
theorem finds_int : Finds 3 inV := fun z l w => by
  unfold Instr.findKey
  simp only [Sem.run_bind, run_underlying Try.underlying3, Result.andThen_ok, findNow_int]
  rfl
section
variable {κ : Type} {c : κ → Value}
theorem PM.made (w : World) (c : κ → Value) : PM (w.alloc (.map #[] 0)) w.heap.size c [] := heap_alloc_new w _
theorem PM.other {w w' : World} {B : Nat} {l : List (κ × Value)} (h : PM w B c l) (hb : w'.heap[B]? = w.heap[B]?) : PM w' B c l := hb.trans h
theorem PM.lt {w : World} {B : Nat} {l : List (κ × Value)} (h : PM w B c l) : B < w.heap.size := (Array.getElem?_eq_some_iff.1 h).1
theorem PM.below {w w' : World} {B : Nat} {l : List (κ × Value)} (h : PM w B c l) (hb : Below w.heap.size w w') : PM w' B c l := h.other (hb.block B h.lt)
theorem PM.grown {w w' : World} {B : Nat} {l : List (κ × Value)} {r : Option Nat} (h : PM w B c l) (hg : w.grownBy w' r) (hne : some B ≠ r) : PM w' B c l := h.other (hg.block B h.lt hne)
theorem modify_set {es : List MapEntry} {i : Nat} {e : MapEntry} (h : es[i]? = some e) (f : MapEntry → MapEntry) : es.toArray.modify i f = (es.set i (f e)).toArray := by
  apply Array.ext'
  rw [Array.toList_modify, List.toList_toArray]
  apply List.ext_getElem?
  intro j
  rw [List.getElem?_modify, List.getElem?_set]
  by_cases e1 : i = j
  · subst e1
    have hl := (List.getElem?_eq_some_iff.1 h).1
    have he : es[i] = e := (List.getElem?_eq_some_iff.1 h).2
    simp [hl, he]
  · simp [e1]
theorem grown_setBlock {w : World} {B : Nat} {es : Array MapEntry} {n : Nat} (h : w.heap[B]? = some (.map es n)) (o : Obj) : w.grownBy (setBlock w B o) (some B) ∧ (setBlock w B o).heap[B]? = some o :=
  ⟨⟨rfl, rfl, rfl, by simp [setBlock], fun i _ hi => heap_setBlock_other h _ (fun e => hi (by rw [e]))⟩, heap_setBlock_same h _⟩
theorem PM.fill {mt : TypeId} {w : World} {B : Nat} {l : List (κ × Value)} (h : PM w B c l) {k : κ} {u : Value} {i : Nat} (hi : l[i]? = some (k, u)) (v : Value) :
    ∃ w', (Instr.entryStore mt (.map (some B)) (.int .i64 i) v).run Try.prog w = .ok () w' ∧ PM w' B c (l.set i (k, v)) ∧ w.grownBy w' (some B) := by
  have hlt := (List.getElem?_eq_some_iff.1 hi).1
  have hb : (entF c l 0).findIdx? (fun e => ((e.born : Nat) : Int) == ((i : Nat) : Int)) = some i := by
    have := entF_born c l 0 i hlt
    rwa [Nat.zero_add] at this
  have he : (entF c l 0)[i]? = some ⟨c k, u, i⟩ := by rw [entF_get, hi, Nat.zero_add]; rfl
  have hm : (entF c l 0).toArray.modify i (fun e => { e with val := v }) = (entF c (l.set i (k, v)) 0).toArray := by
    rw [modify_set he, ← entF_set, Nat.zero_add]
  have hg := grown_setBlock h (.map (entF c (l.set i (k, v)) 0).toArray l.length)
  refine ⟨_, ?_, ?_, hg.1⟩
  · rw [← hm]
    simp [Instr.entryStore, MapKept.run_getObj_map h, asInt, asIntOf, hb, MapKept.run_setObj_map _ h, Result.andThen, setBlock]
  · have := hg.2
    unfold PM
    rw [List.length_set]
    exact this
end
section
variable {κ : Type} [DecidableEq κ]
structure Kind (mt kt et : TypeId) (c : κ → Value) (z : Value) : Prop where
  map : Try.prog.underlying mt = some (.map kt et)
  finds : Finds kt c
  check : ∀ e k w, (Instr.checkKey e 10000 kt (c k)).run Try.prog w = .ok () w
  zero : ∀ w, (zeroValue et).run Try.prog w = .ok z w
  same : ∀ k, Instr.sameBits 10000 (c k) (c k) = true
variable {mt kt et : TypeId} {c : κ → Value} {z : Value}
theorem Kind.stays (K : Kind mt kt et c z) (k : κ) (w : World) : (Instr.keyThatStays (c k) (c k)).run Try.prog w = .ok (c k) w := by
  unfold Instr.keyThatStays
  rw [if_pos (K.same k)]
  rfl
theorem PM.look (K : Kind mt kt et c z) {w : World} {B : Nat} {l : List (κ × Value)} (h : PM w B c l) (k : κ) : (Instr.lookup mt (.map (some B)) (c k) false).run Try.prog w = .ok ((getL k l).getD z) w := by
  have hf := K.finds k l w
  unfold getL
  cases hs : seekL k l 0 with
  | none =>
    rw [hs] at hf
    simp [Instr.lookup, run_underlying K.map, MapKept.run_getObj_map h, K.check, hf, K.zero, Result.andThen]
  | some q =>
    rw [hs] at hf
    simp [Instr.lookup, run_underlying K.map, MapKept.run_getObj_map h, K.check, hf, Result.andThen]
theorem PM.lookOk (K : Kind mt kt et c z) {w : World} {B : Nat} {l : List (κ × Value)} (h : PM w B c l) (k : κ) : (Instr.lookup mt (.map (some B)) (c k) true).run Try.prog w = .ok (.tuple #[(getL k l).getD z, .bool (getL k l).isSome]) w := by
  have hf := K.finds k l w
  unfold getL
  cases hs : seekL k l 0 with
  | none =>
    rw [hs] at hf
    simp [Instr.lookup, run_underlying K.map, MapKept.run_getObj_map h, K.check, hf, K.zero, Result.andThen]
  | some q =>
    rw [hs] at hf
    simp [Instr.lookup, run_underlying K.map, MapKept.run_getObj_map h, K.check, hf, Result.andThen]
theorem ent_at {k : κ} {l : List (κ × Value)} {i : Nat} {v : Value} (h : seekL k l 0 = some (i, v)) (c : κ → Value) : (entF c l 0)[i]? = some ⟨c k, v, i⟩ := by
  obtain ⟨_, _, h3⟩ := seekL_lt h
  rw [Nat.sub_zero] at h3
  rw [entF_get, h3, Nat.zero_add]
  rfl
theorem grown_twice {w w1 w2 : World} {r : Option Nat} (h : w.grownBy w1 r) (g : w1.grownBy w2 r) : w.grownBy w2 r :=
  ⟨g.os.trans h.os, g.tape.trans h.tape, g.output.trans h.output, Nat.le_trans h.size g.size, fun k hk hne => (g.block k (Nat.lt_of_lt_of_le hk h.size) hne).trans (h.block k hk hne)⟩
theorem PM.put (K : Kind mt kt et c z) {w : World} {B : Nat} {l : List (κ × Value)} (h : PM w B c l) (k : κ) (v : Value) :
    ∃ w', (Instr.mapUpdate mt (.map (some B)) (c k) v).run Try.prog w = .ok () w' ∧ PM w' B c (putL k v l) ∧ w.grownBy w' (some B) := by
  have hf := K.finds k l w
  unfold putL
  cases hs : seekL k l 0 with
  | none =>
    rw [hs] at hf
    have hm : (entF c l 0).toArray.push ⟨c k, v, l.length⟩ = (entF c (l ++ [(k, v)]) 0).toArray := by rw [entF_append, Nat.zero_add, List.push_toArray]
    have hg := grown_setBlock h (.map (entF c (l ++ [(k, v)]) 0).toArray (l.length + 1))
    refine ⟨_, ?_, ?_, hg.1⟩
    · rw [← hm]
      simp [Instr.mapUpdate, run_underlying K.map, MapKept.run_getObj_map h, K.check, hf, MapKept.run_setObj_map _ h, Result.andThen, setBlock]
    · have := hg.2
      simp only
      unfold PM
      rw [List.length_append]
      exact this
  | some q =>
    obtain ⟨i, u⟩ := q
    rw [hs] at hf
    have he := ent_at hs c
    have hm : (entF c l 0).toArray.modify i (fun e => { e with key := c k, val := v }) = (entF c (l.set i (k, v)) 0).toArray := by
      rw [modify_set he, ← entF_set, Nat.zero_add]
    have hg := grown_setBlock h (.map (entF c (l.set i (k, v)) 0).toArray l.length)
    refine ⟨_, ?_, ?_, hg.1⟩
    · rw [← hm]
      simp [Instr.mapUpdate, run_underlying K.map, MapKept.run_getObj_map h, K.check, hf, he, K.stays, MapKept.run_setObj_map _ h, Result.andThen, setBlock]
    · have := hg.2
      simp only
      unfold PM
      rw [List.length_set]
      exact this
theorem PM.entry (K : Kind mt kt et c z) {w : World} {B : Nat} {l : List (κ × Value)} (h : PM w B c l) (k : κ) (v : Value) :
    ∃ w1 w2 i, (Instr.mapEntry mt (.map (some B)) (c k)).run Try.prog w = .ok (.tuple #[(getL k l).getD z, .int .i64 i]) w1 ∧ PM w1 B c (laidL k z l) ∧ w.grownBy w1 (some B) ∧
      (Instr.entryStore mt (.map (some B)) (.int .i64 i) v).run Try.prog w1 = .ok () w2 ∧ PM w2 B c (putL k v l) ∧ w.grownBy w2 (some B) := by
  have hf := K.finds k l w
  unfold putL getL laidL
  cases hs : seekL k l 0 with
  | none =>
    rw [hs] at hf
    have hm : (entF c l 0).toArray.push ⟨c k, z, l.length⟩ = (entF c (l ++ [(k, z)]) 0).toArray := by rw [entF_append, Nat.zero_add, List.push_toArray]
    have hg := grown_setBlock h (.map (entF c (l ++ [(k, z)]) 0).toArray (l.length + 1))
    have h1 : PM (setBlock w B (.map (entF c (l ++ [(k, z)]) 0).toArray (l.length + 1))) B c (l ++ [(k, z)]) := by
      have := hg.2
      unfold PM
      rw [List.length_append]
      exact this
    obtain ⟨w2, hr2, hp2, hg2⟩ := h1.fill (mt := mt) (i := l.length) (k := k) (u := z) (by simp) v
    refine ⟨_, w2, l.length, ?_, h1, hg.1, hr2, ?_, grown_twice hg.1 hg2⟩
    · rw [← hm]
      simp [Instr.mapEntry, run_underlying K.map, MapKept.run_getObj_map h, K.check, hf, K.zero, MapKept.run_setObj_map _ h, Result.andThen, setBlock, goInt]
    · have e : (l ++ [(k, z)]).set l.length (k, v) = l ++ [(k, v)] := by simp
      rw [e] at hp2
      exact hp2
  | some q =>
    obtain ⟨i, u⟩ := q
    rw [hs] at hf
    have he := ent_at hs c
    have hget : l[i]? = some (k, u) := by have := (seekL_lt hs).2.2; rwa [Nat.sub_zero] at this
    have hm : (entF c l 0).toArray.modify i (fun e => { e with key := c k }) = (entF c l 0).toArray := by
      have e0 : (entF c l 0).set i ⟨c k, u, i⟩ = entF c l 0 := by
        apply List.ext_getElem?
        intro j
        rw [List.getElem?_set]
        by_cases e1 : i = j
        · subst e1
          have hl := (List.getElem?_eq_some_iff.1 he).1
          rw [if_pos rfl, if_pos hl, he]
        · rw [if_neg e1]
      rw [modify_set he]
      exact congrArg List.toArray e0
    have hg := grown_setBlock h (.map (entF c l 0).toArray l.length)
    have h1 : PM (setBlock w B (.map (entF c l 0).toArray l.length)) B c l := hg.2
    obtain ⟨w2, hr2, hp2, hg2⟩ := h1.fill (mt := mt) hget v
    refine ⟨_, w2, i, ?_, h1, hg.1, hr2, hp2, grown_twice hg.1 hg2⟩
    have e2 : (setBlock w B (.map (entF c l 0).toArray l.length)) = setBlock w B (.map ((entF c l 0).toArray.modify i (fun e => { e with key := c k })) l.length) := by rw [hm]
    rw [e2]
    simp [Instr.mapEntry, run_underlying K.map, MapKept.run_getObj_map h, K.check, hf, he, K.stays, MapKept.run_setObj_map _ h, Result.andThen, setBlock, goInt]
end
theorem kind_claims : Kind 117 119 3 plV (.int .i64 0) := ⟨Try.underlying117, finds_place, check_place, intZero, fun k => by simp [Instr.sameBits]⟩
theorem kind_wishes : Kind 116 3 119 inV (plV (0, 0)) := ⟨Try.underlying116, finds_int, check_int, zero_place, fun k => by simp [Instr.sameBits]⟩
end Go.Proofs.Ytgiieepfhohmhab
namespace Go.Proofs.Ytgiieepfhohmhab
open Go.RowKit Go.Maps
def mapK (f : List Int → List Int) (A : List (List Int)) (k : Nat) : List (List Int) := (A.take k).map f ++ A.drop k
theorem mapK_zero (f : List Int → List Int) (A : List (List Int)) : mapK f A 0 = A := by unfold mapK; simp
theorem mapK_all (f : List Int → List Int) (A : List (List Int)) {k : Nat} (hk : A.length ≤ k) : mapK f A k = A.map f := by
  unfold mapK
  rw [List.take_of_length_le hk, List.drop_of_length_le hk, List.append_nil]
theorem mapK_length (f : List Int → List Int) (A : List (List Int)) {k : Nat} (hk : k ≤ A.length) : (mapK f A k).length = A.length := by
  unfold mapK
  rw [List.length_append, List.length_map, List.length_take, List.length_drop]
  omega
theorem mapK_rec (f : List Int → List Int) (A : List (List Int)) {k : Nat} (hk : k ≤ A.length) {j : Nat} (hj : j < A.length) : rec (mapK f A k) j = if j < k then f (rec A j) else rec A j := by
  have hl : ((A.take k).map f).length = k := by rw [List.length_map, List.length_take]; omega
  rw [rec_at (by rw [mapK_length f A hk]; exact hj), rec_at hj]
  unfold mapK
  by_cases h : j < k
  · rw [if_pos h, List.getElem_append_left (by omega), List.getElem_map, List.getElem_take]
  · rw [if_neg h, List.getElem_append_right (by omega), List.getElem_drop]
    congr 1
    omega
theorem mapK_next (f : List Int → List Int) (A : List (List Int)) {k : Nat} (hk : k < A.length) : mapK f A (k + 1) = (mapK f A k).set k (f (rec A k)) := by
  have hl : ((A.take k).map f).length = k := by rw [List.length_map, List.length_take]; omega
  have e1 : A.take (k + 1) = A.take k ++ [A[k]] := by rw [List.take_add_one, List.getElem?_eq_getElem hk]; rfl
  have e2 : A.drop k = A[k] :: A.drop (k + 1) := (List.getElem_cons_drop hk).symm
  unfold mapK
  rw [e1, e2, List.map_append, List.append_assoc, List.set_append, if_neg (by omega), hl, Nat.sub_self, rec_at hk]
  rfl
theorem mapK_same (f : List Int → List Int) (A : List (List Int)) {k : Nat} (hk : k < A.length) (h : f (rec A k) = rec A k) : mapK f A (k + 1) = mapK f A k := by
  rw [mapK_next f A hk, h]
  have hr : rec (mapK f A k) k = rec A k := by rw [mapK_rec f A (by omega) hk, if_neg (by omega)]
  rw [← hr, rec_at (by rw [mapK_length f A (by omega)]; exact hk)]
  exact List.set_getElem_self _
theorem take_rec {A : List (List Int)} {k : Nat} (hk : k < A.length) : A.take (k + 1) = A.take k ++ [rec A k] := by
  rw [rec_at hk, List.take_add_one, List.getElem?_eq_getElem hk]
  rfl
def claimK (es : List (List Int)) (was : Int → Int) (k : Nat) (q : Int × Int) : Nat := (es.take k).countP (isAt q.1 q.2) + (es.take k).countP (fun u => decide (wishE es was u = some q))
def ClaimL (es : List (List Int)) (was : Int → Int) (k : Nat) (l : List ((Int × Int) × Value)) : Prop := ∀ q, (getL q l).getD (.int .i64 0) = .int .i64 (claimK es was k q)
def ClaimM (es : List (List Int)) (was : Int → Int) (k : Nat) (y : List Int) (l : List ((Int × Int) × Value)) : Prop := ∀ q, (getL q l).getD (.int .i64 0) = .int .i64 ((claimK es was k q + if isAt q.1 q.2 y = true then 1 else 0 : Nat) : Int)
def WishL (es : List (List Int)) (was : Int → Int) (k : Nat) (l : List (Int × Value)) : Prop :=
  (∀ i, i < k → getL (fld (rec es i) 0) l = (wishE es was (rec es i)).map plV) ∧ ∀ id, (∀ i, i < k → fld (rec es i) 0 ≠ id) → getL id l = none
def Uniq (es : List (List Int)) : Prop := ∀ i j, i < es.length → j < es.length → fld (rec es i) 0 = fld (rec es j) 0 → i = j
theorem claimK_zero (es : List (List Int)) (was : Int → Int) : ClaimL es was 0 [] := fun q => by simp [getL_nil, claimK]
theorem wishL_zero (es : List (List Int)) (was : Int → Int) : WishL es was 0 [] := ⟨fun _ h => absurd h (Nat.not_lt_zero _), fun _ _ => rfl⟩
theorem claimK_le (es : List (List Int)) (was : Int → Int) (k : Nat) (q : Int × Int) : claimK es was k q ≤ 2 * k := by
  unfold claimK
  have h1 := List.countP_le_length (p := isAt q.1 q.2) (l := es.take k)
  have h2 := List.countP_le_length (p := fun u => decide (wishE es was u = some q)) (l := es.take k)
  rw [List.length_take] at h1 h2
  omega
theorem claimK_next {es : List (List Int)} {was : Int → Int} {k : Nat} (hk : k < es.length) (q : Int × Int) :
    claimK es was (k + 1) q = claimK es was k q + (if isAt q.1 q.2 (rec es k) = true then 1 else 0) + (if wishE es was (rec es k) = some q then 1 else 0) := by
  unfold claimK
  rw [take_rec hk, List.countP_append, List.countP_append]
  have e1 : List.countP (isAt q.1 q.2) [rec es k] = if isAt q.1 q.2 (rec es k) = true then 1 else 0 := by simp [List.countP_cons]
  have e2 : List.countP (fun u => decide (wishE es was u = some q)) [rec es k] = if wishE es was (rec es k) = some q then 1 else 0 := by simp [List.countP_cons]
  rw [e1, e2]
  omega
theorem claim_at {es : List (List Int)} {was : Int → Int} {k : Nat} {l : List ((Int × Int) × Value)} (h : ClaimL es was k l) : ClaimM es was k (rec es k) (putL (fld (rec es k) 3, fld (rec es k) 4) (.int .i64 ((claimK es was k (fld (rec es k) 3, fld (rec es k) 4) : Nat) + 1)) l) := fun q => by
  rw [getL_put]
  by_cases e : q = (fld (rec es k) 3, fld (rec es k) 4)
  · subst e
    have : isAt (fld (rec es k) 3) (fld (rec es k) 4) (rec es k) = true := by unfold isAt; simp
    rw [if_pos rfl, if_pos this]
    simp
  · have : ¬ isAt q.1 q.2 (rec es k) = true := by
      unfold isAt
      intro h
      simp only [Bool.and_eq_true, beq_iff_eq] at h
      exact e (by rw [h.1, h.2])
    rw [if_neg e, if_neg this, h q]
    rfl
theorem claim_none {es : List (List Int)} {was : Int → Int} {k : Nat} (hk : k < es.length) {l : List ((Int × Int) × Value)} (h : ClaimM es was k (rec es k) l) (hw : wishE es was (rec es k) = none) : ClaimL es was (k + 1) l := fun q => by
  rw [h q, claimK_next hk, hw]
  simp
theorem claim_some {es : List (List Int)} {was : Int → Int} {k : Nat} (hk : k < es.length) {l : List ((Int × Int) × Value)} (h : ClaimM es was k (rec es k) l) {q : Int × Int} (hw : wishE es was (rec es k) = some q) :
    ClaimL es was (k + 1) (putL q (.int .i64 (((claimK es was k q + if isAt q.1 q.2 (rec es k) = true then 1 else 0 : Nat) : Int) + 1)) l) := fun r => by
  rw [getL_put, claimK_next hk, hw]
  by_cases e : r = q
  · subst e
    rw [if_pos rfl, if_pos rfl]
    simp
  · have e2 : ¬ (some q = some r) := fun x => e (Option.some.inj x).symm
    rw [if_neg e, h r, if_neg e2]
    rfl
theorem wish_none {es : List (List Int)} {was : Int → Int} {k : Nat} (hk : k < es.length) (hu : Uniq es) {l : List (Int × Value)} (h : WishL es was k l) (hw : wishE es was (rec es k) = none) : WishL es was (k + 1) l := by
  refine ⟨fun i hi => ?_, fun id hid => h.2 id fun i hi => hid i (by omega)⟩
  by_cases e : i = k
  · subst e
    rw [hw]
    exact h.2 _ fun j hj x => by have := hu j i (by omega) hk x; omega
  · exact h.1 i (by omega)
theorem wish_some {es : List (List Int)} {was : Int → Int} {k : Nat} (hk : k < es.length) (hu : Uniq es) {l : List (Int × Value)} (h : WishL es was k l) {q : Int × Int} (hw : wishE es was (rec es k) = some q) : WishL es was (k + 1) (putL (fld (rec es k) 0) (plV q) l) := by
  refine ⟨fun i hi => ?_, fun id hid => ?_⟩
  · rw [getL_put]
    by_cases e : i = k
    · subst e
      rw [if_pos rfl, hw]
      rfl
    · rw [if_neg (fun x => e (hu i k (by omega) hk x))]
      exact h.1 i (by omega)
  · rw [getL_put, if_neg (fun x => hid k (by omega) x.symm)]
    exact h.2 id fun i hi => hid i (by omega)
theorem claimK_all (es : List (List Int)) (was : Int → Int) (q : Int × Int) : claimK es was es.length q = claimsE es was q.1 q.2 := by
  unfold claimK claimsE
  rw [List.take_length]
end Go.Proofs.Ytgiieepfhohmhab
namespace Go.Proofs.Ytgiieepfhohmhab
open Go.RowKit Go.Maps
structure MoveOk (s : St) : Prop where
  len : s.es.length ≤ 100
  on : ∀ i, i < s.es.length → OnU (rec s.es i)
  aim : ∀ i, i < s.es.length → AimU s.es (rec s.es i)
  head : ∀ i, i < s.es.length → headB s.es (rec s.es i) = true → (0 ≤ headX s.es (rec s.es i) ∧ headX s.es (rec s.es i) < 12) ∧ 0 ≤ headY s.es (rec s.es i) ∧ headY s.es (rec s.es i) < 12
  wf : ∀ i, i < s.es.length → (Lit.int .i64 (fld (rec s.es i) 0)).wf = true
  uniq : Uniq s.es
  idle : ∀ i, i < s.es.length → fld (rec s.es i) 6 ≠ 1 → ¬ (fld (rec s.es i) 6 = 2 ∨ fld (rec s.es i) 6 = 3) → idxZ (isId (fld (rec s.es i) 9)) s.es < 0
theorem grown_cell {w w' : World} {B : Nat} (h : w.grownBy w' (some B)) {k : Nat} (hk : k < w.heap.size) (hne : k ≠ B) (j : Nat) : w'.cell? ⟨k, j, none⟩ = w.cell? ⟨k, j, none⟩ :=
  World.cell?_of_block (w := w) (a := ⟨k, j, none⟩) (h.block k hk (fun e => hne (by simpa using e)))
theorem grown_refl (w : World) (r : Option Nat) : w.grownBy w r := ⟨rfl, rfl, rfl, Nat.le_refl _, fun _ _ _ => rfl⟩
theorem grown_drew (w : World) (r : Option Nat) : w.grownBy w.drew r := ⟨rfl, rfl, rfl, Nat.le_refl _, fun _ _ _ => rfl⟩
theorem grown_to_below {w w' : World} {B b : Nat} (h : w.grownBy w' (some B)) (hb : b ≤ B) (hs : b ≤ w.heap.size) : Below b w w' := ⟨h.os, h.tape, h.output, h.size, fun k hk => h.block k (by omega) (fun e => by simp at e; omega)⟩
theorem gm_two {base : Nat} {w : World} {p g n c : Nat} {fv bv : Value} {B : Nat} {s : St} {was : Int → Int} (h : Gm base w p (.slice (some ⟨g, 0, none⟩) n c) fv bv B s was) {i : Nat} (hi : i < s.es.length) (x y : Int) :
    Gm base ((w.setCell ⟨g, i * 10 + 3, none⟩ (.int .i64 x)).setCell ⟨g, i * 10 + 4, none⟩ (.int .i64 y)) p (.slice (some ⟨g, 0, none⟩) n c) fv bv B { s with es := s.es.set i (updR 10 (updR 10 (rec s.es i) 3 x) 4 y) } was := by
  have h1 := gm_rput h hi (j := 3) (by omega) x
  have h2 := gm_rput h1 (i := i) (by simpa using hi) (j := 4) (by omega) y
  rw [rec_set_same hi, set_set] at h2
  exact h2
theorem pm_two {κ : Type} {cd : κ → Value} {w : World} {g M : Nat} {L : List (κ × Value)} {o1 o2 : Nat} {v1 v2 : Value} (h : PM w M cd L) (hg : g ≠ M) : PM ((w.setCell ⟨g, o1, none⟩ v1).setCell ⟨g, o2, none⟩ v2) M cd L :=
  h.other ((heap_setCell_other _ ⟨g, o2, none⟩ M v2 (fun e => hg e.symm)).trans (heap_setCell_other _ ⟨g, o1, none⟩ M v1 (fun e => hg e.symm)))
theorem moveU_some {es : List (List Int)} {was : Int → Int} {u : List Int} {q : Int × Int} (h : wishE es was u = some q) : moveU es was u = if claimsE es was q.1 q.2 = 1 then updR 10 (updR 10 u 3 q.1) 4 q.2 else u := by
  unfold moveU
  rw [h]
theorem moveU_none {es : List (List Int)} {was : Int → Int} {u : List Int} (h : wishE es was u = none) : moveU es was u = u := by
  unfold moveU
  rw [h]
set_option maxRecDepth 100000 in
set_option maxHeartbeats 8000000 in
theorem move_calls (base p : Nat) (s : St) (was : Int → Int) (w : World) (hok : MoveOk s) (hwas : ∀ z, 0 ≤ was z) (h : GmE base w p s was) :
    Calls Try.prog 57 #[.pointer (some ⟨p, 0, none⟩)] w fun e w' => e = .returned (.tuple #[]) ∧ GmE base w' p (moveS s was) was ∧ Below base w w' := by
  have HG := hid h
  have HOK := hid hok
  have HWAS := hid hwas
  obtain ⟨ev, fv, bv, B, hGm⟩ := h
  have hlt := hGm.lt
  have hbp := hGm.bp
  obtain ⟨ea, c, rfl, hcap, hrecs, hg0⟩ := hGm.er.open
  have HR := hid hrecs
  have HE0 := hid hg0
  have HM := hid hGm
  have hmm := @run_makeMap Try.prog
  obtain ⟨W, hW⟩ : ∃ W, (w.alloc (.map #[] 0)).alloc (.map #[] 0) = W := ⟨_, rfl⟩
  have hbW : Below w.heap.size w W := by rw [← hW]; exact ((Below.refl _ w).alloc (Nat.le_refl _) _).alloc (by simp [go_sem]) _
  have hsW : W.heap.size = w.heap.size + 2 := by rw [← hW]; simp [go_sem]
  have hP0 : PM W w.heap.size inV [] := by rw [← hW]; exact (PM.made w inV).below ((Below.refl _ _).alloc (Nat.le_refl _) _)
  have hP1 : PM W (w.heap.size + 1) plV [] := by
    have e : w.heap.size + 1 = (w.alloc (.map #[] 0)).heap.size := by simp [go_sem]
    rw [← hW, e]
    exact PM.made _ plV
  have d5 : W.cell? ⟨p, 5, none⟩ = some (.slice ea s.es.length c) := (hGm.below hbW).cell 5
  have HBW := hid hbW
  have HSW := hid hsW
  have HP0 := hid hP0
  have HP1 := hid hP1
  have hlen := hok.len
  clear hGm hrecs hg0 hbW hsW hP0 hP1 hok hwas
  go_enter Try.func57, Try.ntmps57
  go_wp2
  clear d5 hmm hW
  go_loopw [20] (fun i wr => ∃ (k : Nat) (Lw : List (Int × Value)) (Lc : List ((Int × Int) × Value)), k ≤ s.es.length ∧ i = .int .i64 k ∧ Hid (Below w.heap.size w wr) ∧ Hid (PM wr w.heap.size inV Lw) ∧ Hid (PM wr (w.heap.size + 1) plV Lc) ∧ Hid (WishL s.es was k Lw) ∧ Hid (ClaimL s.es was k Lc)) (fun i _ => s.es.length - (intOf i).toNat)
  case atStart => exact ⟨0, [], [], Nat.zero_le _, rfl, HBW, HP0, HP1, wishL_zero _ _, claimK_zero _ _⟩
  case round =>
    clear HBW HP0 HP1 HSW
    obtain ⟨k, Lw, Lc, hk, rfl, HB, HPw, HPc, HWL, HCL⟩ := hrel
    by_cases hkl : k < s.es.length
    · have hltz : (k : Int) < (s.es.length : Int) := by omega
      obtain ⟨b, o, rfl, hb, l0, l1, l2, l3, l4, l5, l6, l7, l8, l9⟩ := (HR.out.below HB.out).ten hkl
      have HON := hid (HOK.out.on k hkl)
      have HAI := hid (HOK.out.aim k hkl)
      have HHE := hid (HOK.out.head k hkl)
      have HWF := hid (HOK.out.wf k hkl)
      have HTO : Hid (0 ≤ idxZ (isId (fld (rec s.es k) 9)) s.es → OnU (tgtE s.es (rec s.es k))) := fun hi => HOK.out.on _ (idxZ_at hi).1
      have HID := hid (HOK.out.idle k hkl)
      have HWZ := hid (HWAS.out (fld (rec s.es k) 0))
      have HCM := hid (claim_at HCL.out)
      have HCN := hid (fun l => @claim_none s.es was k hkl l)
      have HCS := hid (fun l => @claim_some s.es was k hkl l)
      have HWN := hid (fun h => wish_none hkl HOK.out.uniq HWL.out h)
      have HWS := hid (fun q h => @wish_some s.es was k hkl HOK.out.uniq Lw HWL.out q h)
      have HC0 := hid (HCL.out (fld (rec s.es k) 3, fld (rec s.es k) 4))
      have HLE := hid (claimK_le s.es was k (fld (rec s.es k) 3, fld (rec s.es k) 4))
      generalize rec s.es k = y at l0 l1 l2 l3 l4 l5 l6 l7 l8 l9 HON HAI HHE HWF HTO HID HWZ HCM HCN HCS HWN HWS HC0 HLE
      generalize claimK s.es was k (fld y 3, fld y 4) = n0 at HCM HC0 HLE
      have hn0 : (n0 : Int) ≤ 1000 := by have := HLE.out; omega
      go_wp2_with fail
      obtain ⟨V, hV⟩ : ∃ V, wr.alloc (.cells (entC y) 63) = V := ⟨_, rfl⟩
      rw [hV]
      have hbV : Below wr.heap.size wr V := by rw [← hV]; exact (Below.refl _ _).alloc (Nat.le_refl _) _
      have hVh : V.heap[wr.heap.size]? = some (.cells (entC y) 63) := by rw [← hV]; exact heap_alloc_new _ _
      have hsV : wr.heap.size < V.heap.size := (Array.getElem?_eq_some_iff.1 hVh).1
      have hsr : w.heap.size + 1 < wr.heap.size := HPc.out.lt
      have hBV : Below w.heap.size w V := HB.out.trans (hbV.mono (by omega))
      have hPwV := HPw.out.below hbV
      have hPcV := HPc.out.below hbV
      clear hV l0 l1 l2 l3 l4 l5 l6 l7 l8 l9
      obtain ⟨w1, w2, i, hme, hp1, hg1, hes, hp2, hg2⟩ := PM.entry (w := V.drew) kind_claims hPcV (fld y 3, fld y 4) (.int .i64 ((n0 : Int) + 1))
      have hl0 := PM.look (w := V.drew) kind_claims hPcV (fld y 3, fld y 4)
      have hl1 := PM.look kind_claims hp1 (fld y 3, fld y 4)
      rw [getL_laid] at hl1
      have hC0 : (getL (fld y 3, fld y 4) Lc).getD (.int .i64 0) = .int .i64 n0 := HC0.out
      rw [hC0] at hme hl0 hl1
      have hg1' := drew_grown hg1
      have hg2' := drew_grown hg2
      have G3 : ∀ w', V.grownBy w' (some (w.heap.size + 1)) → w'.cell? ⟨wr.heap.size, 3, none⟩ = some (.int .i64 (fld y 3)) := fun w' h => (grown_cell h hsV (by omega) 3).trans (cell_of_row V _ 3 _ _ _ hVh)
      have G4 : ∀ w', V.grownBy w' (some (w.heap.size + 1)) → w'.cell? ⟨wr.heap.size, 4, none⟩ = some (.int .i64 (fld y 4)) := fun w' h => (grown_cell h hsV (by omega) 4).trans (cell_of_row V _ 4 _ _ _ hVh)
      have hwr : IntKind.i64.wrap ((n0 : Int) + 1) = (n0 : Int) + 1 := IntWalk.i64_in _ ⟨by omega, by omega⟩
      have HBV := hid hBV
      have HVH := hid hVh
      have HPV := hid hPwV
      have HP2 := hid hp2
      have HG1 := hid hg1'
      have HG2 := hid hg2'
      clear hp1 hp2 hg1 hg2 hg1' hg2' hPwV hPcV hbV hBV hVh hC0
      go_cut [24] (fun _ wx => Hid (V.grownBy wx (some (w.heap.size + 1)) ∧ PM wx (w.heap.size + 1) plV (putL (fld y 3, fld y 4) (.int .i64 ((n0 : Int) + 1)) Lc)))
      case first =>
        go_region_held3 (fun w' => V.grownBy w' (some (w.heap.size + 1))) (first | with_reducible exact grown_drew _ _ | with_reducible exact HG1.out | with_reducible exact HG2.out | assumption) (fail)
        all_goals
          go_wp2
          go_meet
          exact ⟨HG2.out, HP2.out⟩
      case rest =>
        have hgc := hcut.out.1
        have HPX := hid hcut.out.2
        have hBc : Below w.heap.size w wc := HBV.out.trans (grown_to_below hgc (by omega) (by omega))
        have hVc : wc.heap[wr.heap.size]? = some (.cells (entC y) 63) := (hgc.block _ hsV (by simp; omega)).trans HVH.out
        have HPY : Hid (PM wc w.heap.size inV Lw) := HPV.out.grown hgc (by simp)
        have hszc : wr.heap.size < wc.heap.size := (Array.getElem?_eq_some_iff.1 hVc).1
        have y0 : wc.cell? ⟨wr.heap.size, 0, none⟩ = some (.int .i64 (fld y 0)) := cell_of_row wc _ 0 _ _ _ hVc
        have y1 : wc.cell? ⟨wr.heap.size, 1, none⟩ = some (.int .i64 (fld y 1)) := cell_of_row wc _ 1 _ _ _ hVc
        have y2 : wc.cell? ⟨wr.heap.size, 2, none⟩ = some (.int .i64 (fld y 2)) := cell_of_row wc _ 2 _ _ _ hVc
        have y3 : wc.cell? ⟨wr.heap.size, 3, none⟩ = some (.int .i64 (fld y 3)) := cell_of_row wc _ 3 _ _ _ hVc
        have y4 : wc.cell? ⟨wr.heap.size, 4, none⟩ = some (.int .i64 (fld y 4)) := cell_of_row wc _ 4 _ _ _ hVc
        have y5 : wc.cell? ⟨wr.heap.size, 5, none⟩ = some (.int .i64 (fld y 5)) := cell_of_row wc _ 5 _ _ _ hVc
        have y6 : wc.cell? ⟨wr.heap.size, 6, none⟩ = some (.int .i64 (fld y 6)) := cell_of_row wc _ 6 _ _ _ hVc
        have y7 : wc.cell? ⟨wr.heap.size, 7, none⟩ = some (.int .i64 (fld y 7)) := cell_of_row wc _ 7 _ _ _ hVc
        have y8 : wc.cell? ⟨wr.heap.size, 8, none⟩ = some (.int .i64 (fld y 8)) := cell_of_row wc _ 8 _ _ _ hVc
        have y9 : wc.cell? ⟨wr.heap.size, 9, none⟩ = some (.int .i64 (fld y 9)) := cell_of_row wc _ 9 _ _ _ hVc
        have HBc := hid hBc
        have HVc := hid hVc
        have HWI := hid (wish_calls base p s was y wc hlen HON.out HAI.out HHE.out HWF.out HTO.out HID.out HWZ.out (HG.out.below hBc))
        clear hcut hgc hBc hVc hme hl0 hl1 hes G3 G4 hwr HBV HVH HPV HP2 HG1 HG2
        go_wp2_with fail
        refine HWI.out.mono ?_
        clear HWI y0 y1 y2 y3 y4 y5 y6 y7 y8 y9
        rintro e w3 ⟨v, rfl, ⟨qx, qy, rfl, hq⟩, hb3⟩
        have HQ := hid hq
        have hV3 := (hb3.block _ hszc).trans HVc.out
        have y0 : w3.cell? ⟨wr.heap.size, 0, none⟩ = some (.int .i64 (fld y 0)) := cell_of_row w3 _ 0 _ _ _ hV3
        have hlt3 : wr.heap.size < w3.heap.size := (Array.getElem?_eq_some_iff.1 hV3).1
        have HB3 : Hid (Below w.heap.size w w3) := HBc.out.trans (hb3.mono (by omega))
        have HX3 := hid (HPX.out.below hb3)
        have HY3 := hid (HPY.out.below hb3)
        clear hq hb3 hV3 HPX HPY HBc HVc
        have hb4 : Below w3.heap.size w3 (w3.alloc (.cells #[.int .i64 qx, .int .i64 qy] 119)) := (Below.refl _ _).alloc (Nat.le_refl _) _
        have HB4 : Hid (Below w.heap.size w (w3.alloc (.cells #[.int .i64 qx, .int .i64 qy] 119))) := HB3.out.trans (hb4.mono (by omega))
        have HX4 := hid (HX3.out.below hb4)
        have HY4 := hid (HY3.out.below hb4)
        have z0 : (w3.alloc (.cells #[.int .i64 qx, .int .i64 qy] 119)).cell? ⟨wr.heap.size, 0, none⟩ = some (.int .i64 (fld y 0)) := (hb4.cell (p := ⟨wr.heap.size, 0, none⟩) hlt3).trans y0
        have HZ0 := hid z0
        clear z0 hb4
        cases hwi : wishE s.es was y with
        | none =>
          have HCn := hid (HCN.out _ HCM.out hwi)
          have HWn := hid (HWN.out hwi)
          clear hwi
          go_wp2
          go_roundw
          case rel => exact ⟨k + 1, Lw, _, by omega, by go_num, HB4, HY4, HX4, HWn, HCn⟩
          case measure => simp [intOf]; omega
        | some q =>
          have hqe := HQ.out q hwi
          subst hqe
          have HCs := hid (HCS.out _ HCM.out hwi)
          have HWs := hid (HWS.out _ hwi)
          clear hwi
          obtain ⟨U, hU⟩ : ∃ U, w3.alloc (.cells #[.int .i64 qx, .int .i64 qy] 119) = U := ⟨_, rfl⟩
          rw [hU] at HB4 HX4 HY4 HZ0
          have hUh : U.heap[w3.heap.size]? = some (.cells #[.int .i64 qx, .int .i64 qy] 119) := by rw [← hU]; exact heap_alloc_new _ _
          have hUs : w3.heap.size < U.heap.size := (Array.getElem?_eq_some_iff.1 hUh).1
          have u0 : U.cell? ⟨w3.heap.size, 0, none⟩ = some (.int .i64 qx) := cell_of_row U _ 0 _ _ _ hUh
          have u1 : U.cell? ⟨w3.heap.size, 1, none⟩ = some (.int .i64 qy) := cell_of_row U _ 1 _ _ _ hUh
          have z0 := HZ0.out
          have HUH := hid hUh
          obtain ⟨w5, hr5, hp5, hg5⟩ := PM.put kind_wishes HY4.out (fld y 0) (plV (qx, qy))
          have HP5 := hid hp5
          have HG5 := hid hg5
          have HC5 : Hid (PM w5 (w.heap.size + 1) plV (putL (fld y 3, fld y 4) (.int .i64 ((n0 : Int) + 1)) Lc)) := HX4.out.grown hg5 (by simp)
          have HB5 : Hid (Below w.heap.size w w5) := HB4.out.trans (grown_to_below hg5 (Nat.le_refl _) (by omega))
          have hh5 : w5.heap[w3.heap.size]? = some (.cells #[.int .i64 qx, .int .i64 qy] 119) := (hg5.block _ hUs (by simp; omega)).trans hUh
          have HH5 := hid hh5
          clear hp5 hg5 hh5 hUh
          go_wp2_with fail
          clear u0 u1 z0 y0 hU hr5 HZ0 HX4 HY4 HUH HB4
          have hval := HCM.out (qx, qy)
          have hle1 := claimK_le s.es was k (qx, qy)
          have hle2 : (if isAt qx qy y = true then 1 else 0) ≤ 1 := by split <;> omega
          have hn1 : claimK s.es was k (qx, qy) + (if isAt qx qy y = true then 1 else 0) ≤ 1000 := by omega
          generalize claimK s.es was k (qx, qy) + (if isAt qx qy y = true then 1 else 0) = n1 at hval HCs hn1
          obtain ⟨v1, v2, i5, hme5, hp51, hg51, hes5, hp52, hg52⟩ := PM.entry (w := w5.drew) kind_claims HC5.out (qx, qy) (.int .i64 ((n1 : Int) + 1))
          have hl50 := PM.look (w := w5.drew) kind_claims HC5.out (qx, qy)
          have hl51 := PM.look kind_claims hp51 (qx, qy)
          rw [getL_laid] at hl51
          rw [hval] at hme5 hl50 hl51
          have hsw5 : w3.heap.size < w5.heap.size := (Array.getElem?_eq_some_iff.1 HH5.out).1
          have G0 : ∀ w', w5.grownBy w' (some (w.heap.size + 1)) → w'.cell? ⟨w3.heap.size, 0, none⟩ = some (.int .i64 qx) := fun w' h => (grown_cell h hsw5 (by omega) 0).trans (cell_of_row w5 _ 0 _ _ _ HH5.out)
          have G1 : ∀ w', w5.grownBy w' (some (w.heap.size + 1)) → w'.cell? ⟨w3.heap.size, 1, none⟩ = some (.int .i64 qy) := fun w' h => (grown_cell h hsw5 (by omega) 1).trans (cell_of_row w5 _ 1 _ _ _ HH5.out)
          have hwr : IntKind.i64.wrap ((n1 : Int) + 1) = (n1 : Int) + 1 := IntWalk.i64_in _ ⟨by omega, by omega⟩
          have HG51 := hid (drew_grown hg51)
          have HG52 := hid (drew_grown hg52)
          have HP52 := hid hp52
          clear hp51 hg51 hp52 hg52 hval hle1 hle2
          go_region_held3 (fun w' => w5.grownBy w' (some (w.heap.size + 1))) (first | with_reducible exact grown_drew _ _ | with_reducible exact HG51.out | with_reducible exact HG52.out | assumption) (fail)
          all_goals
            clear hme5 hl50 hl51 hes5 G0 G1 hwr
            have HB6 : Hid (Below w.heap.size w v2) := HB5.out.trans (grown_to_below HG52.out (by omega) (by omega))
            have HP6 : Hid (PM v2 w.heap.size inV (putL (fld y 0) (plV (qx, qy)) Lw)) := HP5.out.grown HG52.out (by simp)
            go_wp2
            go_roundw
            case rel => exact ⟨k + 1, _, _, by omega, by go_num, HB6, HP6, HP52, HWs, HCs⟩
            case measure => simp [intOf]; omega
    · have hltz : ¬ (k : Int) < (s.es.length : Int) := by omega
      have hke : k = s.es.length := by omega
      subst hke
      have hGr := HM.out.below HB.out
      have d5 := hGr.cell 5
      have HG0 : Hid (Gm base wr p (.slice ea s.es.length c) fv bv B { s with es := mapK (moveU s.es was) s.es 0 } was) := by
        show Gm _ _ _ _ _ _ _ _ _
        rw [mapK_zero]
        exact hGr
      have HB0 : Hid (Below base w wr) := HB.out.mono (by omega)
      have hsr : w.heap.size + 1 < wr.heap.size := HPc.out.lt
      clear hGr hkl hk
      go_wp2
      clear d5
      go_loopw [58] (fun i wr => ∃ k : Nat, k ≤ s.es.length ∧ i = .int .i64 k ∧ Hid (Gm base wr p (.slice ea s.es.length c) fv bv B { s with es := mapK (moveU s.es was) s.es k } was) ∧ Hid (Below base w wr) ∧ Hid (PM wr w.heap.size inV Lw) ∧ Hid (PM wr (w.heap.size + 1) plV Lc)) (fun i _ => s.es.length - (intOf i).toNat)
      case atStart => exact ⟨0, Nat.zero_le _, rfl, HG0, HB0, HPw, HPc⟩
      case round =>
        clear HG0 HB0 HPw HPc hsr HB
        obtain ⟨k, hk, rfl, HGk, HBk, HPw, HPc⟩ := hrel
        by_cases hkl : k < s.es.length
        · have hkz : (k : Int) < (s.es.length : Int) := by omega
          have hlk : (mapK (moveU s.es was) s.es k).length = s.es.length := mapK_length _ _ hk
          obtain ⟨g, rfl, hbg, hgl⟩ := HE0.out (by omega)
          have hkl2 : k < ({ s with es := mapK (moveU s.es was) s.es k } : St).es.length := by show k < (mapK (moveU s.es was) s.es k).length; omega
          obtain ⟨hc, hf⟩ := HGk.out.er.ten hkl2
          have hrk : rec ({ s with es := mapK (moveU s.es was) s.es k } : St).es k = rec s.es k := by show rec (mapK (moveU s.es was) s.es k) k = _; rw [mapK_rec _ _ hk hkl, if_neg (by omega)]
          rw [hrk] at hc
          have l0 : wr.cell? ⟨g, k * 10, none⟩ = some (.int .i64 (fld (rec s.es k) 0)) := hc 0 (by omega)
          have l3 := hc 3 (by omega)
          have l4 := hc 4 (by omega)
          have f3 := hf (k * 10 + 3)
          have f4 := hf (k * 10 + 4)
          have d5 := HGk.out.cell 5
          have HRK := hid hrk
          have hgr : g < wr.heap.size := World.block_lt_of_cell? wr _ l3
          have hsr : w.heap.size + 1 < wr.heap.size := HPc.out.lt
          have HLO := hid (PM.lookOk kind_wishes HPw.out (fld (rec s.es k) 0))
          rw [HWL.out.1 k hkl] at HLO
          have hpr := HGk.out.lt
          have hgw : g ≠ w.heap.size ∧ g ≠ w.heap.size + 1 := ⟨by omega, by omega⟩
          clear hc hf hrk
          cases hwi : wishE s.es was (rec s.es k) with
          | none =>
            have HS : Hid (mapK (moveU s.es was) s.es (k + 1) = mapK (moveU s.es was) s.es k) := mapK_same _ _ hkl (moveU_none hwi)
            have hlo := HLO.out
            rw [hwi] at hlo
            have hlo' : (Instr.lookup 116 (.map (some w.heap.size)) (.int .i64 (fld (rec s.es k) 0)) true).run Try.prog wr = .ok (.tuple #[.agg #[.int .i64 0, .int .i64 0], .bool false]) wr := hlo
            clear hlo hwi HLO
            have hb4 : Below wr.heap.size wr (wr.alloc (.cells #[.int .i64 0, .int .i64 0] 119)) := (Below.refl _ _).alloc (Nat.le_refl _) _
            have HG4 : Hid (Gm base (wr.alloc (.cells #[.int .i64 0, .int .i64 0] 119)) p (.slice (some ⟨g, 0, none⟩) s.es.length c) fv bv B { s with es := mapK (moveU s.es was) s.es (k + 1) } was) := by
              show Gm _ _ _ _ _ _ _ _ _
              rw [HS.out]
              exact HGk.out.below hb4
            have HB4 : Hid (Below base w (wr.alloc (.cells #[.int .i64 0, .int .i64 0] 119))) := HBk.out.trans (hb4.mono (by omega))
            have HW4 := hid (HPw.out.below hb4)
            have HC4 := hid (HPc.out.below hb4)
            clear hb4 HGk HBk HPw HPc
            go_wp2
            go_roundw
            case rel => exact ⟨k + 1, by omega, by go_num, HG4, HB4, HW4, HC4⟩
            case measure => simp [intOf]; omega
          | some q =>
            obtain ⟨qx, qy⟩ := q
            have hlo := HLO.out
            rw [hwi] at hlo
            have hlo' : (Instr.lookup 116 (.map (some w.heap.size)) (.int .i64 (fld (rec s.es k) 0)) true).run Try.prog wr = .ok (.tuple #[.agg #[.int .i64 qx, .int .i64 qy], .bool true]) wr := hlo
            clear hlo HLO
            have hb4 : Below wr.heap.size wr (wr.alloc (.cells #[.int .i64 qx, .int .i64 qy] 119)) := (Below.refl _ _).alloc (Nat.le_refl _) _
            have hW4 := HPw.out.below hb4
            have hC4 := HPc.out.below hb4
            have hlc := PM.look kind_claims hC4 (qx, qy)
            have hnc := HCL.out (qx, qy)
            rw [claimK_all] at hnc
            have hlc' : (Instr.lookup 117 (.map (some (w.heap.size + 1))) (.agg #[.int .i64 qx, .int .i64 qy]) false).run Try.prog (wr.alloc (.cells #[.int .i64 qx, .int .i64 qy] 119)) = .ok (.int .i64 (claimsE s.es was qx qy)) (wr.alloc (.cells #[.int .i64 qx, .int .i64 qy] 119)) := by
              rw [hnc] at hlc
              exact hlc
            have hG4 := HGk.out.below hb4
            have HB4 : Hid (Below base w (wr.alloc (.cells #[.int .i64 qx, .int .i64 qy] 119))) := HBk.out.trans (hb4.mono (by omega))
            have m3 := (hb4.cell (p := ⟨g, k * 10 + 3, none⟩) hgr).trans l3
            have m4 := (hb4.cell (p := ⟨g, k * 10 + 4, none⟩) hgr).trans l4
            have fm3 := (hb4.frozen (p := ⟨g, k * 10 + 3, none⟩) hgr).trans f3
            have fm4 := (hb4.frozen (p := ⟨g, k * 10 + 4, none⟩) hgr).trans f4
            have HMU := hid (moveU_some hwi)
            clear hwi hlc hnc hb4
            by_cases hcl : claimsE s.es was qx qy = 1
            · have HN : Hid (mapK (moveU s.es was) s.es (k + 1) = (mapK (moveU s.es was) s.es k).set k (updR 10 (updR 10 (rec s.es k) 3 qx) 4 qy)) := by
                show _ = _
                rw [mapK_next _ _ hkl, HMU.out, if_pos hcl]
              have hclz : (((claimsE s.es was qx qy : Nat) : Int) == 1) = true := by rw [hcl]; rfl
              have hG5 := gm_two hG4 hkl2 qx qy
              rw [HRK.out] at hG5
              have HG5 : Hid (Gm base (((wr.alloc (.cells #[.int .i64 qx, .int .i64 qy] 119)).setCell ⟨g, k * 10 + 3, none⟩ (.int .i64 qx)).setCell ⟨g, k * 10 + 4, none⟩ (.int .i64 qy)) p (.slice (some ⟨g, 0, none⟩) s.es.length c) fv bv B { s with es := mapK (moveU s.es was) s.es (k + 1) } was) := by
                show Gm _ _ _ _ _ _ _ _ _
                rw [HN.out]
                exact hG5
              have HW5 := hid (pm_two (o1 := k * 10 + 3) (o2 := k * 10 + 4) (v1 := .int .i64 qx) (v2 := .int .i64 qy) hW4 hgw.1)
              have HC5 := hid (pm_two (o1 := k * 10 + 3) (o2 := k * 10 + 4) (v1 := .int .i64 qx) (v2 := .int .i64 qy) hC4 hgw.2)
              have HB5 : Hid (Below base w (((wr.alloc (.cells #[.int .i64 qx, .int .i64 qy] 119)).setCell ⟨g, k * 10 + 3, none⟩ (.int .i64 qx)).setCell ⟨g, k * 10 + 4, none⟩ (.int .i64 qy))) := (HB4.out.setCell (p := ⟨g, k * 10 + 3, none⟩) hbg _).setCell (p := ⟨g, k * 10 + 4, none⟩) hbg _
              clear hG5 hG4 hW4 hC4 hcl HB4 HGk HBk HPw HPc HMU HN
              go_wp2_with fail
              clear hlo' hlc' l0 l3 l4 f3 f4 d5
              have c0 : (wr.alloc (.cells #[.int .i64 qx, .int .i64 qy] 119)).cell? ⟨wr.heap.size, 0, none⟩ = some (.int .i64 qx) := cell_of_row _ _ 0 _ _ _ (heap_alloc_new _ _)
              have c1 : (wr.alloc (.cells #[.int .i64 qx, .int .i64 qy] 119)).cell? ⟨wr.heap.size, 1, none⟩ = some (.int .i64 qy) := cell_of_row _ _ 1 _ _ _ (heap_alloc_new _ _)
              generalize wr.alloc (.cells #[.int .i64 qx, .int .i64 qy] 119) = U at m3 m4 fm3 fm4 c0 c1 HG5 HW5 HC5 HB5 ⊢
              go_region
              all_goals
                go_wp2
                go_roundw
                case rel => exact ⟨k + 1, by omega, by go_num, HG5.out.below (Below.refl _ _).drew, HB5.out.drew, HW5, HC5⟩
                case measure => simp [intOf]; omega
            · have HS : Hid (mapK (moveU s.es was) s.es (k + 1) = mapK (moveU s.es was) s.es k) := mapK_same _ _ hkl (by rw [HMU.out, if_neg hcl])
              have hclz : (((claimsE s.es was qx qy : Nat) : Int) == 1) = false := by simp; omega
              have HG5 : Hid (Gm base (wr.alloc (.cells #[.int .i64 qx, .int .i64 qy] 119)) p (.slice (some ⟨g, 0, none⟩) s.es.length c) fv bv B { s with es := mapK (moveU s.es was) s.es (k + 1) } was) := by
                show Gm _ _ _ _ _ _ _ _ _
                rw [HS.out]
                exact hG4
              have HW4 := hid hW4
              have HC4 := hid hC4
              clear hG4 hW4 hC4 hcl HGk HBk HPw HPc HMU
              go_wp2
              go_roundw
              case rel => exact ⟨k + 1, by omega, by go_num, HG5, HB4, HW4, HC4⟩
              case measure => simp [intOf]; omega
        · have hkz : ¬ (k : Int) < (s.es.length : Int) := by omega
          have HF : Hid (GmE base wr p (moveS s was) was) := by
            have h := HGk.out
            rw [mapK_all _ _ (by omega)] at h
            exact ⟨_, _, _, _, h⟩
          clear HGk HPw HPc
          go_wp2
          go_end0
          exact ⟨rfl, HF.out, HBk.out⟩
end Go.Proofs.Ytgiieepfhohmhab
namespace Go.Proofs.Ytgiieepfhohmhab
open Go.RowKit Go.Maps
def hurtK (es : List (List Int)) (was : Int → Int) (k : Nat) (u : List Int) : List Int := updR 10 u 5 (fld u 5 - lessE es was (es.take k) (fld u 0))
def strikeK (s : St) (was : Int → Int) (k : Nat) : St := { s with g0 := earnE s.es was 0 (s.es.take k) s.g0, g1 := earnE s.es was 1 (s.es.take k) s.g1, es := s.es.map (hurtK s.es was k) }
theorem flat_congr {a b : List (List Int)} (hl : a.length = b.length) (h : ∀ i, i < a.length → ∀ j, j < 10 → fld (rec a i) j = fld (rec b i) j) : flat 10 a = flat 10 b := by
  apply List.ext_getElem?
  intro m
  have hm : m = (m / 10) * 10 + m % 10 := by omega
  have hmk : m % 10 < 10 := by omega
  rw [hm, flat_get hmk, flat_get hmk, hl]
  split
  · rename_i h1
    rw [h _ (by omega) _ hmk]
  · rfl
theorem gm_congr {base : Nat} {w : World} {p : Nat} {ev fv bv : Value} {B : Nat} {s : St} {was : Int → Int} (h : Gm base w p ev fv bv B s was) {es : List (List Int)} (hl : es.length = s.es.length) (he : ∀ i, i < es.length → ∀ j, j < 10 → fld (rec es i) j = fld (rec s.es i) j) :
    Gm base w p ev fv bv B { s with es := es } was := by
  refine ⟨h.hp, ?_, h.fr, h.br, h.ct, h.bp, h.bB, h.fb⟩
  have := h.er
  unfold Row at this ⊢
  show w.ownsRow base 63 10 ev es.length (flat 10 es)
  rw [hl, flat_congr hl he]
  exact this
theorem rec_map {f : List Int → List Int} {es : List (List Int)} {i : Nat} (hi : i < es.length) : rec (es.map f) i = f (rec es i) := by
  rw [rec_at (by simpa using hi), rec_at hi, List.getElem_map]
theorem lessE_zero (es : List (List Int)) (was : Int → Int) (id : Int) : lessE es was (es.take 0) id = 0 := by
  unfold lessE
  simp
theorem lessE_next {es : List (List Int)} {was : Int → Int} {k : Nat} (hk : k < es.length) (id : Int) :
    lessE es was (es.take (k + 1)) id = if strikeB es was (rec es k) = true ∧ fld (rec es k) 9 = id then lessE es was (es.take k) id + amountE (rec es k) else lessE es was (es.take k) id := by
  unfold lessE
  rw [take_rec hk, List.foldl_append]
  rfl
theorem earnE_next {es : List (List Int)} {was : Int → Int} {k : Nat} (hk : k < es.length) (o g : Int) :
    earnE es was o (es.take (k + 1)) g = if strikeB es was (rec es k) = true ∧ fld (rec es k) 6 ≠ 2 ∧ fld (rec es k) 1 = o then min (earnE es was o (es.take k) g + Pl.eLoad (fld (rec es k) 2)) 40 else earnE es was o (es.take k) g := by
  unfold earnE
  rw [take_rec hk, List.foldl_append]
  rfl
theorem less_bd (es : List (List Int)) (was : Int → Int) (k : Nat) (id : Int) : 0 ≤ lessE es was (es.take k) id ∧ lessE es was (es.take k) id ≤ 3 * k := by
  refine ⟨less_nonneg _ _ _ _, ?_⟩
  induction k with
  | zero => rw [lessE_zero]; omega
  | succ k ih =>
    by_cases hk : k < es.length
    · rw [lessE_next hk]
      have := (amount_nonneg (rec es k)).2
      split <;> omega
    · rw [List.take_of_length_le (by omega)]
      rw [List.take_of_length_le (by omega)] at ih
      omega
theorem hurtK_fld (es : List (List Int)) (was : Int → Int) (k : Nat) (u : List Int) {j : Nat} (hj : j < 10) : fld (hurtK es was k u) j = if j = 5 then fld u 5 - lessE es was (es.take k) (fld u 0) else fld u j := by
  unfold hurtK
  exact fld_updR u 5 _ hj
theorem strikeK_len (s : St) (was : Int → Int) (k : Nat) : (strikeK s was k).es.length = s.es.length := by
  unfold strikeK
  simp
theorem strikeK_rec {s : St} {was : Int → Int} {k i : Nat} (hi : i < s.es.length) : rec (strikeK s was k).es i = hurtK s.es was k (rec s.es i) := rec_map hi
theorem strikeK_start {base : Nat} {w : World} {p : Nat} {ev fv bv : Value} {B : Nat} {s : St} {was : Int → Int} (h : Gm base w p ev fv bv B s was) : Gm base w p ev fv bv B (strikeK s was 0) was := by
  have := gm_congr h (es := s.es.map (hurtK s.es was 0)) (by simp) (fun i hi j hj => by
    rw [List.length_map] at hi
    rw [rec_map hi, hurtK_fld _ _ _ _ hj, lessE_zero]
    split
    · rename_i e
      rw [e]
      omega
    · rfl)
  exact this
theorem strikeK_end (s : St) (was : Int → Int) : strikeK s was s.es.length = strikeS s was := by
  unfold strikeK strikeS
  rw [List.take_length]
  congr 1
  exact List.map_congr_left fun u _ => by
    unfold hurtK hurtU
    rw [List.take_length]
theorem strikeK_pass {s : St} {was : Int → Int} {k : Nat} (hk : k < s.es.length) (h : strikeB s.es was (rec s.es k) = false) : strikeK s was (k + 1) = strikeK s was k := by
  unfold strikeK
  rw [earnE_next hk, earnE_next hk, if_neg (fun x => by rw [h] at x; exact absurd x.1 (by simp)), if_neg (fun x => by rw [h] at x; exact absurd x.1 (by simp))]
  congr 1
  exact List.map_congr_left fun u _ => by
    unfold hurtK
    rw [lessE_next hk, if_neg (fun x => by rw [h] at x; exact absurd x.1 (by simp))]
theorem strikeK_hit {base : Nat} {w : World} {p g n c : Nat} {fv bv : Value} {B : Nat} {s : St} {was : Int → Int} {k m : Nat} (hk : k < s.es.length) (hm : m < s.es.length) (hu : Uniq s.es)
    (hs : strikeB s.es was (rec s.es k) = true) (ht : fld (rec s.es m) 0 = fld (rec s.es k) 9) {T : St}
    (h : Gm base w p (.slice (some ⟨g, 0, none⟩) n c) fv bv B T was) (hT : T = { strikeK s was k with es := (strikeK s was k).es.set m (updR 10 (hurtK s.es was k (rec s.es m)) 5 (fld (hurtK s.es was k (rec s.es m)) 5 - amountE (rec s.es k))) }) :
    Gm base w p (.slice (some ⟨g, 0, none⟩) n c) fv bv B { strikeK s was k with es := (strikeK s was (k + 1)).es } was := by
  subst hT
  have hl : (strikeK s was (k + 1)).es.length = s.es.length := strikeK_len _ _ _
  refine gm_congr h (es := (strikeK s was (k + 1)).es) (by simp [strikeK]) (fun i hi j hj => ?_)
  rw [hl] at hi
  rw [strikeK_rec hi, hurtK_fld _ _ _ _ hj, lessE_next hk]
  show _ = fld (rec ((strikeK s was k).es.set m _) i) j
  rw [rec_set (by rw [strikeK_len]; exact hi)]
  by_cases e : i = m
  · subst e
    have e1 : (strikeB s.es was (rec s.es k) = true ∧ fld (rec s.es k) 9 = fld (rec s.es i) 0) := ⟨hs, ht.symm⟩
    rw [if_pos e1, if_pos rfl, fld_updR _ _ _ hj, hurtK_fld _ _ _ _ (show 5 < 10 by omega), if_pos rfl, hurtK_fld _ _ _ _ hj]
    by_cases h5 : j = 5
    · rw [if_pos h5, if_pos h5]
      omega
    · rw [if_neg h5, if_neg h5, if_neg h5]
  · have e1 : ¬ (strikeB s.es was (rec s.es k) = true ∧ fld (rec s.es k) 9 = fld (rec s.es i) 0) := fun x => e (hu i m hi hm (by rw [ht]; exact x.2.symm))
    rw [if_neg e1, if_neg e, strikeK_rec hi, hurtK_fld _ _ _ _ hj]
theorem strikeK_fight {s : St} {was : Int → Int} {k : Nat} (hk : k < s.es.length) (h6 : fld (rec s.es k) 6 = 2) : ({ strikeK s was k with es := (strikeK s was (k + 1)).es } : St) = strikeK s was (k + 1) := by
  have e : ∀ o g, earnE s.es was o (s.es.take (k + 1)) g = earnE s.es was o (s.es.take k) g := fun o g => by
    rw [earnE_next hk, if_neg (fun x => x.2.1 h6)]
  unfold strikeK
  simp only [e]
theorem strikeK_mine {s : St} {was : Int → Int} {k : Nat} (hk : k < s.es.length) (hs : strikeB s.es was (rec s.es k) = true) (h6 : fld (rec s.es k) 6 ≠ 2) :
    (fld (rec s.es k) 1 = 0 → ({ strikeK s was k with es := (strikeK s was (k + 1)).es, g0 := min ((strikeK s was k).g0 + Pl.eLoad (fld (rec s.es k) 2)) 40 } : St) = strikeK s was (k + 1)) ∧
    (fld (rec s.es k) 1 = 1 → ({ strikeK s was k with es := (strikeK s was (k + 1)).es, g1 := min ((strikeK s was k).g1 + Pl.eLoad (fld (rec s.es k) 2)) 40 } : St) = strikeK s was (k + 1)) := by
  refine ⟨fun h1 => ?_, fun h1 => ?_⟩
  · have e0 : earnE s.es was 0 (s.es.take (k + 1)) s.g0 = min (earnE s.es was 0 (s.es.take k) s.g0 + Pl.eLoad (fld (rec s.es k) 2)) 40 := by rw [earnE_next hk, if_pos ⟨hs, h6, h1⟩]
    have e1 : earnE s.es was 1 (s.es.take (k + 1)) s.g1 = earnE s.es was 1 (s.es.take k) s.g1 := by rw [earnE_next hk, if_neg (fun x => by have := x.2.2; omega)]
    unfold strikeK
    simp only [e0, e1]
  · have e0 : earnE s.es was 1 (s.es.take (k + 1)) s.g1 = min (earnE s.es was 1 (s.es.take k) s.g1 + Pl.eLoad (fld (rec s.es k) 2)) 40 := by rw [earnE_next hk, if_pos ⟨hs, h6, h1⟩]
    have e1 : earnE s.es was 0 (s.es.take (k + 1)) s.g0 = earnE s.es was 0 (s.es.take k) s.g0 := by rw [earnE_next hk, if_neg (fun x => by have := x.2.2; omega)]
    unfold strikeK
    simp only [e0, e1]
theorem near_same {u t y z : List Int} (hy : ∀ j, j < 10 → j ≠ 5 → fld y j = fld u j) (hz : ∀ j, j < 10 → j ≠ 5 → fld z j = fld t j) : nearE y z = nearE u t := by
  unfold nearE
  rw [hy 3 (by omega) (by omega), hy 4 (by omega) (by omega), hy 6 (by omega) (by omega), hy 2 (by omega) (by omega), hz 3 (by omega) (by omega), hz 4 (by omega) (by omega)]
theorem hurtK_same (es : List (List Int)) (was : Int → Int) (k : Nat) (u : List Int) : ∀ j, j < 10 → j ≠ 5 → fld (hurtK es was k u) j = fld u j := fun j hj h5 => by rw [hurtK_fld _ _ _ _ hj, if_neg h5]
structure StrikeOk (s : St) : Prop where
  len : s.es.length ≤ 100
  on : ∀ i, i < s.es.length → OnU (rec s.es i)
  wf : ∀ i, i < s.es.length → (Lit.int .i64 (fld (rec s.es i) 0)).wf = true
  uniq : Uniq s.es
  aim : ∀ i, i < s.es.length → fld (rec s.es i) 9 ≠ 0 → 0 ≤ idxZ (isId (fld (rec s.es i) 9)) s.es
  own : ∀ i, i < s.es.length → fld (rec s.es i) 9 ≠ 0 → fld (rec s.es i) 1 = 0 ∨ fld (rec s.es i) 1 = 1
  hp : ∀ i, i < s.es.length → 0 ≤ fld (rec s.es i) 5 ∧ fld (rec s.es i) 5 ≤ 1000
  g0 : 0 ≤ s.g0 ∧ s.g0 ≤ 40
  g1 : 0 ≤ s.g1 ∧ s.g1 ≤ 40
theorem on_same {u y : List Int} (hy : ∀ j, j < 10 → j ≠ 5 → fld y j = fld u j) (h : OnU u) : OnU y := by
  unfold OnU at h ⊢
  rw [hy 3 (by omega) (by omega), hy 4 (by omega) (by omega)]
  exact h
theorem idx_strikeK (s : St) (was : Int → Int) (k : Nat) (id : Int) : idxZ (isId id) (strikeK s was k).es = idxZ (isId id) s.es := by
  refine idxZ_congr (strikeK_len _ _ _) fun j hj => ?_
  unfold isId
  rw [strikeK_rec hj, hurtK_same _ _ _ _ 0 (by omega) (by omega)]
structure TurnK (s : St) (was : Int → Int) (k : Nat) (y : List Int) : Prop where
  y0 : rec (strikeK s was k).es k = y
  same : ∀ j, j < 10 → j ≠ 5 → fld y j = fld (rec s.es k) j
  on : OnU y
  wf : (Lit.int .i64 (fld y 0)).wf = true
  idle : was (fld y 0) = 0 ∨ fld y 9 = 0 → strikeK s was (k + 1) = strikeK s was k
theorem turnK {s : St} (h : StrikeOk s) (was : Int → Int) {k : Nat} (hk : k < s.es.length) : TurnK s was k (hurtK s.es was k (rec s.es k)) := by
  have hsame := hurtK_same s.es was k (rec s.es k)
  refine ⟨strikeK_rec hk, hsame, on_same hsame (h.on k hk), ?_, fun hd => strikeK_pass hk ?_⟩
  · rw [hsame 0 (by omega) (by omega)]
    exact h.wf k hk
  · rw [hsame 0 (by omega) (by omega), hsame 9 (by omega) (by omega)] at hd
    unfold strikeB
    rcases hd with e | e
    · simp [e]
    · simp [e]
structure AimK (s : St) (was : Int → Int) (k : Nat) (y : List Int) (m : Nat) (t : List Int) : Prop where
  lt : m < s.es.length
  idx : idxZ (isId (fld y 9)) (strikeK s was k).es = m
  t0 : rec (strikeK s was k).es m = t
  on : OnU t
  hp : -300 ≤ fld t 5 ∧ fld t 5 ≤ 1000
  gold : (0 ≤ (strikeK s was k).g0 ∧ (strikeK s was k).g0 ≤ 40) ∧ 0 ≤ (strikeK s was k).g1 ∧ (strikeK s was k).g1 ≤ 40
  own : fld y 1 = 0 ∨ fld y 1 = 1
  far : nearE y t = false → strikeK s was (k + 1) = strikeK s was k
  fight : nearE y t = true → fld y 6 = 2 → ∀ {base : Nat} {w : World} {p g n c : Nat} {fv bv : Value} {B : Nat}, Gm base w p (.slice (some ⟨g, 0, none⟩) n c) fv bv B { strikeK s was k with es := (strikeK s was k).es.set m (updR 10 t 5 (fld t 5 - Pl.eHarm (fld y 2))) } was → Gm base w p (.slice (some ⟨g, 0, none⟩) n c) fv bv B (strikeK s was (k + 1)) was
  mine : nearE y t = true → fld y 6 ≠ 2 → ∀ {base : Nat} {w : World} {p g n c : Nat} {fv bv : Value} {B : Nat}, Gm base w p (.slice (some ⟨g, 0, none⟩) n c) fv bv B { strikeK s was k with es := (strikeK s was k).es.set m (updR 10 t 5 (fld t 5 - Pl.eLoad (fld y 2))) } was → Gm base w p (.slice (some ⟨g, 0, none⟩) n c) fv bv B { strikeK s was k with es := (strikeK s was (k + 1)).es } was
  gain0 : nearE y t = true → fld y 6 ≠ 2 → fld y 1 = 0 → ({ strikeK s was k with es := (strikeK s was (k + 1)).es, g0 := min ((strikeK s was k).g0 + Pl.eLoad (fld y 2)) 40 } : St) = strikeK s was (k + 1)
  gain1 : nearE y t = true → fld y 6 ≠ 2 → fld y 1 = 1 → ({ strikeK s was k with es := (strikeK s was (k + 1)).es, g1 := min ((strikeK s was k).g1 + Pl.eLoad (fld y 2)) 40 } : St) = strikeK s was (k + 1)
theorem aimK {s : St} (h : StrikeOk s) (was : Int → Int) {k : Nat} (hk : k < s.es.length) {y : List Int} (hy : TurnK s was k y) (hw : was (fld y 0) ≠ 0) (h9 : fld y 9 ≠ 0) : ∃ m t, AimK s was k y m t := by
  have e9 := hy.same 9 (by omega) (by omega)
  have e0 := hy.same 0 (by omega) (by omega)
  have e6 := hy.same 6 (by omega) (by omega)
  have e2 := hy.same 2 (by omega) (by omega)
  have e1 := hy.same 1 (by omega) (by omega)
  have hz := h.aim k hk (by rw [← e9]; exact h9)
  obtain ⟨hml, hmp⟩ := idxZ_at hz
  have hbd := idxZ_bd (isId (fld (rec s.es k) 9)) s.es
  have hid : fld (rec s.es (idxZ (isId (fld (rec s.es k) 9)) s.es).toNat) 0 = fld (rec s.es k) 9 := eq_of_beq hmp
  have hts := hurtK_same s.es was k (rec s.es (idxZ (isId (fld (rec s.es k) 9)) s.es).toNat)
  have hne : nearE y (hurtK s.es was k (rec s.es (idxZ (isId (fld (rec s.es k) 9)) s.es).toNat)) = nearE (rec s.es k) (tgtE s.es (rec s.es k)) := near_same hy.same hts
  have hsb : strikeB s.es was (rec s.es k) = nearE (rec s.es k) (tgtE s.es (rec s.es k)) := by
    unfold strikeB
    rw [decide_eq_true (by rw [← e0]; exact hw), decide_eq_true (by rw [← e9]; exact h9)]
    simp
  have ham2 : fld y 6 = 2 → amountE (rec s.es k) = Pl.eHarm (fld y 2) := fun x => by unfold amountE; rw [if_pos (by rw [← e6]; exact x), e2]
  have ham3 : fld y 6 ≠ 2 → amountE (rec s.es k) = Pl.eLoad (fld y 2) := fun x => by unfold amountE; rw [if_neg (by rw [← e6]; exact x), e2]
  refine ⟨(idxZ (isId (fld (rec s.es k) 9)) s.es).toNat, _, hml, ?_, strikeK_rec hml, on_same hts (h.on _ hml), ?_, ?_, ?_, ?_, ?_, ?_, ?_, ?_⟩
  · rw [idx_strikeK, e9]
    omega
  · rw [hurtK_fld _ _ _ _ (by omega), if_pos rfl]
    have hl := less_bd s.es was k (fld (rec s.es (idxZ (isId (fld (rec s.es k) 9)) s.es).toNat) 0)
    have hh := h.hp _ hml
    have := h.len
    omega
  · exact ⟨earn_bd _ _ _ _ _ h.g0, earn_bd _ _ _ _ _ h.g1⟩
  · rw [e1]
    exact h.own k hk (by rw [← e9]; exact h9)
  · intro hf
    exact strikeK_pass hk (by rw [hsb, ← hne]; exact hf)
  · intro hn h6 base w p g n c fv bv B hG
    have := strikeK_hit hk hml h.uniq (by rw [hsb, ← hne]; exact hn) hid hG (by rw [ham2 h6])
    rw [strikeK_fight hk (by rw [← e6]; exact h6)] at this
    exact this
  · intro hn h6 base w p g n c fv bv B hG
    exact strikeK_hit hk hml h.uniq (by rw [hsb, ← hne]; exact hn) hid hG (by rw [ham3 h6])
  · intro hn h6 h1
    rw [e2]
    exact (strikeK_mine hk (by rw [hsb, ← hne]; exact hn) (by rw [← e6]; exact h6)).1 (by rw [← e1]; exact h1)
  · intro hn h6 h1
    rw [e2]
    exact (strikeK_mine hk (by rw [hsb, ← hne]; exact hn) (by rw [← e6]; exact h6)).2 (by rw [← e1]; exact h1)
end Go.Proofs.Ytgiieepfhohmhab
namespace Go.Proofs.Ytgiieepfhohmhab
open Go.RowKit Go.Maps
theorem rec_mem {es : List (List Int)} {i : Nat} (h : i < es.length) : rec es i ∈ es := by
  rw [rec_at h]
  exact List.getElem_mem h
theorem head_on {s : St} (h : InvM s) {u : List Int} (hu : u ∈ s.es) (hb : headB s.es u = true) : (0 ≤ headX s.es u ∧ headX s.es u < 12) ∧ 0 ≤ headY s.es u ∧ headY s.es u < 12 := by
  by_cases h1 : fld u 6 = 1
  · have hp := h.pl u hu
    unfold placeE at hp
    rw [if_pos h1, Bool.and_eq_true] at hp
    unfold headX headY
    rw [if_pos h1, if_pos h1]
    exact Pl.onB_true hp.1
  · by_cases h2 : fld u 6 = 2 ∨ fld u 6 = 3
    · unfold headX headY
      rw [if_neg h1, if_pos h2, if_neg h1, if_pos h2]
      exact h.on (h.target hu h2).2.1
    · unfold headB at hb
      rw [if_neg h1, if_neg h2] at hb
      cases hb
theorem invM_uniq {s : St} (h : InvM s) : Uniq s.es := by
  have hup := h.inv.up
  intro i j hi hj e
  rcases Nat.lt_trichotomy i j with hlt | heq | hgt
  · have := hup i j hlt hj; omega
  · exact heq
  · have := hup j i hgt hi; omega
theorem invM_wf {s : St} (h : InvM s) {u : List Int} (hu : u ∈ s.es) : (Lit.int .i64 (fld u 0)).wf = true := by
  have := (boundsE_true (h.bd u hu)).2.1
  exact wf64 (by omega) (by omega)
theorem aims {s : St} (h : InvM s) {u : List Int} (hu : u ∈ s.es) (h9 : fld u 9 ≠ 0) : fld u 6 = 2 ∨ fld u 6 = 3 := by
  have hb := (boundsE_true (h.bd u hu)).2.2.2.2.2
  have ht := h.tg u hu
  unfold targetE at ht
  rw [decide_eq_true (show 0 < fld u 9 by omega)] at ht
  have : (fld u 6 == 2 || fld u 6 == 3) = true := by simpa using ht
  rw [Bool.or_eq_true, beq_iff_eq, beq_iff_eq] at this
  exact this
theorem invM_moveOk {s : St} (h : InvM s) : MoveOk s := by
  refine ⟨by have := h.el; omega, fun i hi => h.on (rec_mem hi), fun i hi => h.aimU (rec_mem hi), fun i hi hb => head_on h (rec_mem hi) hb, fun i hi => invM_wf h (rec_mem hi), invM_uniq h, fun i hi h1 h23 => ?_⟩
  have h9 : fld (rec s.es i) 9 = 0 := Classical.byContradiction fun e => h23 (aims h (rec_mem hi) e)
  rw [h9]
  refine idxZ_neg_iff.2 fun j hj => ?_
  have hb := (boundsE_true (h.bd _ (rec_mem hj))).2.1
  show (fld (rec s.es j) 0 == 0) = false
  rw [beq_eq_false_iff_ne]
  omega
theorem invM_strikeOk {s : St} (h : InvM s) : StrikeOk s := by
  refine ⟨by have := h.el; omega, fun i hi => h.on (rec_mem hi), fun i hi => invM_wf h (rec_mem hi), invM_uniq h, fun i hi h9 => (h.target (rec_mem hi) (aims h (rec_mem hi) h9)).1, fun i hi h9 => ?_, fun i hi => ?_, h.a0, h.a1⟩
  · have ht := h.target (rec_mem hi) (aims h (rec_mem hi) h9)
    have ho := h.ow _ (rec_mem hi)
    have hk : fld (rec s.es i) 2 ≠ 4 := by
      intro e
      have hm := ht.2.2.2
      unfold mayE mineE fightE at hm
      rw [e] at hm
      have e1 : Pl.eLoad 4 = 0 := by decide
      have e2 : Pl.eHarm 4 = 0 := by decide
      rw [e1, e2] at hm
      split at hm
      · simp at hm
      · simp at hm
    unfold ownerE at ho
    rw [if_neg hk] at ho
    unfold inZ at ho
    rw [decide_eq_true_eq] at ho
    omega
  · have hb := (boundsE_true (h.bd _ (rec_mem hi))).2.2.2.1
    have : mostZ (fld (rec s.es i) 2) ≤ 1000 := by
      unfold mostZ Pl.eHP
      repeat' split
      all_goals omega
    omega
theorem inv_okU {s : St} (h : Inv s) : ∀ i, i < s.es.length → OkU (rec s.es i) := fun i hi => by
  refine ⟨(boundsE_true (h.bd i hi)).2.2.1, fun h2 => ?_⟩
  have ho := h.ow i hi
  unfold ownerE at ho
  rw [if_neg (by omega)] at ho
  unfold inZ at ho
  rw [decide_eq_true_eq] at ho
  omega
theorem build_born (s : St) (u q : List Int) : (buildS s u q).born.length ≤ s.born.length + 1 := by
  unfold buildS
  split
  · split
    · omega
    next id s1 htk =>
      have h1 : s1.born = s.born := by
        unfold takeS at htk
        split at htk
        · split at htk
          · cases htk
          · cases htk; rfl
        · cases htk; rfl
      simp only [List.length_append, List.length_cons, List.length_nil, h1]
      omega
  · omega
theorem cmd_born (s : St) (q : List Int) : (cmdS s q).born.length ≤ s.born.length + 1 := by
  unfold cmdS doS goS aimS stopS
  repeat' (first | exact Nat.le_succ _ | exact build_born _ _ _ | split)
theorem cmds_next (s : St) {l : List (List Int)} {k : Nat} (hk : k < l.length) : cmdsS s (l.take (k + 1)) = cmdS (cmdsS s (l.take k)) (rec l k) := by
  unfold cmdsS
  rw [take_rec hk, List.foldl_append]
  rfl
theorem cmds_born (s : St) (l : List (List Int)) (k : Nat) : (cmdsS s (l.take k)).born.length ≤ s.born.length + k := by
  induction k with
  | zero => exact Nat.le_of_eq rfl
  | succ k ih =>
    by_cases hk : k < l.length
    · rw [cmds_next s hk]
      have := cmd_born (cmdsS s (l.take k)) (rec l k)
      omega
    · rw [List.take_of_length_le (by omega)]
      rw [List.take_of_length_le (by omega)] at ih
      omega
theorem cmds_inv {s : St} (h : Inv s) (hb : s.born = []) (l : List (List Int)) : Inv (cmdsS s l) := (cmds_ok (s0 := s) l s h (grew_refl s hb)).1
end Go.Proofs.Ytgiieepfhohmhab
namespace Go.Proofs.Ytgiieepfhohmhab
open Go.RowKit Go.Maps
def unitE (u : List Int) : List Int := [fld u 0, fld u 1, fld u 2, fld u 3, fld u 4, fld u 5, fld u 6, fld u 7, fld u 8, fld u 9, 0]
theorem recU {es : List (List Int)} {i : Nat} (h : i < es.length) : rec (es.map unitE) i = unitE (rec es i) := by
  rw [rec_at (by simpa using h), rec_at h, List.getElem_map]
theorem fldU (u : List Int) {j : Nat} (h : j < 10) : fld (unitE u) j = fld u j := by
  match j, h with
  | 0, _ | 1, _ | 2, _ | 3, _ | 4, _ | 5, _ | 6, _ | 7, _ | 8, _ | 9, _ => rfl
theorem frecU (es : List (List Int)) (i : Nat) {j : Nat} (h : j < 10) : fld (rec (es.map unitE) i) j = fld (rec es i) j := by
  by_cases hi : i < es.length
  · rw [recU hi, fldU _ h]
  · have e1 : rec (es.map unitE) i = [] := by
      unfold rec
      rw [List.getD_eq_getElem?_getD, List.getElem?_eq_none (by simpa using hi)]
      rfl
    have e2 : rec es i = [] := by
      unfold rec
      rw [List.getD_eq_getElem?_getD, List.getElem?_eq_none (by omega)]
      rfl
    rw [e1, e2]
end Go.Proofs.Ytgiieepfhohmhab
