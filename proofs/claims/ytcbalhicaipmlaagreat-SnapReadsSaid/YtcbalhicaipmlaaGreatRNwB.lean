/- Package newer of the program: bounds of one; what one may do to another. -/
import Derived.Deep.DeepCutAuto
import Derived.Deep.MidRow
import Derived.Deep.RegionHeld3
import Derived.Test.YtcbalhicaipmlaaGreatRNwA
import Derived.Test.YtcbalhicaipmlaaGreatRElB
import Derived.Test.YtcbalhicaipmlaaGreatRRefEA
import Derived.Test.YtcbalhicaipmlaaGreatROkA
import Derived.Test.YtcbalhicaipmlaaGreatRRefBA
namespace Go.Proofs.YtcbalhicaipmlaaGreat
open Go.RowKit
abbrev ruleNC (k : Int) : Array Value := #[.int .i64 (Pl.nCost k), .int .i64 (Pl.nHP k), .int .i64 (Pl.nSpeed k), .int .i64 (Pl.nHarm k), .int .i64 (Pl.nRange k), .int .i64 (Pl.nLoad k)]
theorem unit_at {w : World} {b : Nat} {u : List Int} (h : w.heap[b]? = some (.cells (unitC u) 121)) :
    w.cell? ⟨b, 0, none⟩ = some (.int .i64 (fld u 0)) ∧ w.cell? ⟨b, 1, none⟩ = some (.int .i64 (fld u 1)) ∧ w.cell? ⟨b, 2, none⟩ = some (.int .i64 (fld u 2)) ∧ w.cell? ⟨b, 3, none⟩ = some (.int .i64 (fld u 3)) ∧ w.cell? ⟨b, 4, none⟩ = some (.int .i64 (fld u 4)) ∧ w.cell? ⟨b, 5, none⟩ = some (.int .i64 (fld u 5)) ∧ w.cell? ⟨b, 6, none⟩ = some (.int .i64 (fld u 6)) ∧ w.cell? ⟨b, 7, none⟩ = some (.int .i64 (fld u 7)) ∧ w.cell? ⟨b, 8, none⟩ = some (.int .i64 (fld u 8)) ∧ w.cell? ⟨b, 9, none⟩ = some (.int .i64 (fld u 9)) ∧ w.cell? ⟨b, 10, none⟩ = some (.int .i64 (fld u 10)) :=
  ⟨cell_of_row w b 0 _ _ _ h, cell_of_row w b 1 _ _ _ h, cell_of_row w b 2 _ _ _ h, cell_of_row w b 3 _ _ _ h, cell_of_row w b 4 _ _ _ h, cell_of_row w b 5 _ _ _ h, cell_of_row w b 6 _ _ _ h, cell_of_row w b 7 _ _ _ h, cell_of_row w b 8 _ _ _ h, cell_of_row w b 9 _ _ _ h, cell_of_row w b 10 _ _ _ h⟩
set_option maxRecDepth 100000 in
set_option maxHeartbeats 4000000 in
theorem inBoundsN_calls (u : List Int) (w : World) :
    Calls Tryz.prog 117 #[unitV u] w fun e w' => e = .returned (.bool (boundsN u)) ∧ Below w.heap.size w w' := by
  obtain ⟨m, hm⟩ : ∃ m, mostN (fld u 2) = m := ⟨_, rfl⟩
  have HM : Hid (boundsN u = (Pl.nHas (fld u 2) && (inZ (fld u 0) 1 2000 && (Pl.onB (fld u 3) (fld u 4) && (inZ (fld u 5) 1 m && (inZ (fld u 6) 0 3 && inZ (fld u 9) 0 2000)))))) := by
    show _ = _
    unfold boundsN
    rw [hm]
  obtain ⟨bb, hbb⟩ : ∃ bb, boundsN u = bb := ⟨_, rfl⟩
  rw [hbb] at HM ⊢
  clear hbb
  have key : ((fld u 2 == 4) = true ∧ m = 100) ∨ ((fld u 2 == 4) = false ∧ m = Pl.nHP (fld u 2)) := by
    unfold mostN at hm
    by_cases h4 : fld u 2 = 4
    · rw [if_pos h4] at hm
      exact Or.inl ⟨by simpa using h4, hm.symm⟩
    · rw [if_neg h4] at hm
      exact Or.inr ⟨by simpa using h4, hm.symm⟩
  clear hm
  obtain ⟨W, hW⟩ : ∃ W, w.alloc (.cells (unitC u) 121) = W := ⟨_, rfl⟩
  have hbW : Below w.heap.size w W := by rw [← hW]; exact (Below.refl _ w).alloc (Nat.le_refl _) _
  have hh0 : W.heap[w.heap.size]? = some (.cells (unitC u) 121) := by rw [← hW]; exact heap_alloc_new w _
  have y2 := (unit_at hh0).2.2.1
  have HBW := hid hbW
  have H0 := hid hh0
  clear hbW hh0
  rcases key with ⟨h4, rfl⟩ | ⟨h4, rfl⟩
  all_goals
    go_enter Tryz.func117, Tryz.ntmps117
    go_wp2_with fail
    refine (newerB_calls (fld u 2) W).mono ?_
    rintro e w1 ⟨rfl, hb1⟩
    obtain ⟨V, hV⟩ : ∃ V, w1.alloc (.cells (ruleNC (fld u 2)) 203) = V := ⟨_, rfl⟩
    have hbV : Below w1.heap.size w1 V := by rw [← hV]; exact (Below.refl _ _).alloc (Nat.le_refl _) _
    have hhV : V.heap[w1.heap.size]? = some (.cells (ruleNC (fld u 2)) 203) := by rw [← hV]; exact heap_alloc_new _ _
    have hWV : Below W.heap.size W V := hb1.trans (hbV.mono hb1.size)
    obtain ⟨x0, x1, x2, x3, x4, x5, x6, x7, x8, x9, x10⟩ := unit_at ((hWV.block w.heap.size (Array.getElem?_eq_some_iff.1 H0.out).1).trans H0.out)
    have v1 : V.cell? ⟨w1.heap.size, 1, none⟩ = some (.int .i64 (Pl.nHP (fld u 2))) := cell_of_row V _ 1 _ _ _ hhV
    have HBV : Hid (Below w.heap.size w V) := HBW.out.trans (hWV.mono HBW.out.size)
    have HVV := hid hV
    clear hb1 hV hbV hhV hWV y2 hW
    go_upto_region 2 with fail
    rw [HVV.out]
    cases h1 : Pl.nHas (fld u 2)
    · rw [h1, Bool.false_and] at HM
      go_wp2
      go_ret
      exact ⟨retB HM.out.symm, HBV.out⟩
    rw [h1, Bool.true_and] at HM
    go_wp2_with fail
    refine (withinN_calls _ _ _ _).mono ?_
    rintro e w' ⟨rfl, rfl⟩
    cases h2 : inZ (fld u 0) 1 2000
    · rw [h2, Bool.false_and] at HM
      go_wp2
      go_ret
      exact ⟨retB HM.out.symm, HBV.out⟩
    rw [h2, Bool.true_and] at HM
    go_wp2_with fail
    refine (on_calls _ _ _).mono ?_
    rintro e w' ⟨rfl, rfl⟩
    cases h3 : Pl.onB (fld u 3) (fld u 4)
    · rw [h3, Bool.false_and] at HM
      go_wp2
      go_ret
      exact ⟨retB HM.out.symm, HBV.out⟩
    rw [h3, Bool.true_and] at HM
    go_wp2_with fail
    refine (withinN_calls _ _ _ _).mono ?_
    rintro e w' ⟨rfl, rfl⟩
    generalize h5 : inZ (fld u 5) 1 _ = b5 at HM ⊢
    clear h5
    cases b5
    · rw [Bool.false_and] at HM
      go_wp2
      go_ret
      exact ⟨retB HM.out.symm, HBV.out⟩
    rw [Bool.true_and] at HM
    go_wp2_with fail
    refine (withinN_calls _ _ _ _).mono ?_
    rintro e w' ⟨rfl, rfl⟩
    cases h6 : inZ (fld u 6) 0 3
    · rw [h6, Bool.false_and] at HM
      go_wp2
      go_ret
      exact ⟨retB HM.out.symm, HBV.out⟩
    rw [h6, Bool.true_and] at HM
    go_wp2_with fail
    refine (withinN_calls _ _ _ _).mono ?_
    rintro e w' ⟨rfl, rfl⟩
    go_wp2
    go_ret
    exact ⟨retB HM.out.symm, HBV.out⟩
set_option maxRecDepth 100000 in
set_option maxHeartbeats 2000000 in
theorem mayN_calls (u : List Int) (d : Int) (t : List Int) (w : World) :
    Calls Tryz.prog 123 #[unitV u, .int .i64 d, unitV t] w fun e w' => e = .returned (.bool (mayN d u t)) ∧ Below w.heap.size w w' := by
  unfold mayN
  by_cases hd : d = 3
  · rw [if_pos hd]
    have bd : (d == 3) = true := by simpa using hd
    clear hd
    unfold mineN
    cases h2 : fld t 2 == 4
    · rw [Bool.false_and]
      go_enter Tryz.func123, Tryz.ntmps123
      go_wp2
      go_ret
      exact ⟨rfl, by go_grown⟩
    · rw [Bool.true_and]
      go_enter Tryz.func123, Tryz.ntmps123
      go_wp2_with fail
      refine (rule_newer_calls u _).mono ?_
      rintro e w1 ⟨rfl, hb⟩
      have HB := hid hb
      clear hb
      have fr := field_rule5
      by_cases hs : 0 < Pl.nLoad (fld u 2)
      all_goals
        go_wp2
        go_ret
        exact ⟨by simp [hs], (((Below.refl _ w).alloc (Nat.le_refl _) _).alloc (by simp [go_sem]) _).trans (HB.out.mono (by simp [go_sem]; omega))⟩
  · rw [if_neg hd]
    have bd : (d == 3) = false := by simpa using hd
    clear hd
    unfold fightN
    cases h2 : fld t 2 != 4
    · rw [Bool.false_and]
      go_enter Tryz.func123, Tryz.ntmps123
      go_wp2
      go_ret
      exact ⟨rfl, by go_grown⟩
    · rw [Bool.true_and]
      cases h3 : fld t 1 != fld u 1
      · rw [Bool.false_and]
        go_enter Tryz.func123, Tryz.ntmps123
        go_wp2
        go_ret
        exact ⟨rfl, by go_grown⟩
      · rw [Bool.true_and]
        go_enter Tryz.func123, Tryz.ntmps123
        go_wp2_with fail
        refine (rule_newer_calls u _).mono ?_
        rintro e w1 ⟨rfl, hb⟩
        have HB := hid hb
        clear hb
        have fr := field_rule3
        by_cases hs : 0 < Pl.nHarm (fld u 2)
        all_goals
          go_wp2
          go_ret
          exact ⟨by simp [hs], (((Below.refl _ w).alloc (Nat.le_refl _) _).alloc (by simp [go_sem]) _).trans (HB.out.mono (by simp [go_sem]; omega))⟩
end Go.Proofs.YtcbalhicaipmlaaGreat
namespace Go.Proofs.YtcbalhicaipmlaaGreat
open Go.RowKit Go.Maps
def nearN (u t : List Int) : Bool := decide (Pl.farZ (fld u 3) (fld u 4) (fld t 3) (fld t 4) ≤ (if fld u 6 = 2 then Pl.nRange (fld u 2) else 1))
end Go.Proofs.YtcbalhicaipmlaaGreat
namespace Go.Proofs.YtcbalhicaipmlaaGreat
open Go.RowKit
set_option maxHeartbeats 2000000 in
theorem indexFuncU_calls (g : Nat) (lb : Array Value) (eg : ∀ args w, (callFunc g args).run Tryz.prog w = .ok (.enter g args) w) (p : List Int → Bool) (es : List (List Int)) (ea : Option Addr) (c : Nat) (w : World)
    (hn : es.length ≤ 1000) (hrow : Recs w ea 11 es)
    (hp : ∀ (W : World) (u : List Int), Below w.heap.size w W → Calls Tryz.prog g (#[unitV u] ++ lb) W fun e w' => e = .returned (.bool (p u)) ∧ Below w.heap.size w w') :
    Calls Tryz.prog 121 #[.slice ea es.length c, .func (.func g) #[] lb] w fun e w' => e = .returned (.int .i64 (idxZ p es)) ∧ Below w.heap.size w w' := by
  have HR : Hid (Recs w ea 11 es) := hrow
  clear hrow
  go_enter Tryz.func121, Tryz.ntmps121
  go_wp2
  go_loopg [5, 8] es.length (fun gg _ s8 wr => ∃ kk : Nat, kk ≤ es.length ∧ es.length - kk ≤ gg ∧ s8 = .int .i64 kk ∧ Hid (Below w.heap.size w wr) ∧ Hid (∀ j, j < kk → p (rec es j) = false))
  case atStart => exact ⟨0, Nat.zero_le _, by omega, rfl, Below.refl _ w, fun j hj => absurd hj (Nat.not_lt_zero _)⟩
  case round =>
    obtain ⟨kk, hkk, hg, rfl, BW, A⟩ := hrel
    by_cases hlt : kk < es.length
    · have hltz : (kk : Int) < (es.length : Int) := by omega
      obtain ⟨b, o, rfl, hc⟩ := (HR.out.below BW.out).at hlt
      have l0 : wr.cell? ⟨b, o + kk * 11, none⟩ = some (.int .i64 (fld (rec es kk) 0)) := hc 0 (by omega)
      have l1 := hc 1 (by omega)
      have l2 := hc 2 (by omega)
      have l3 := hc 3 (by omega)
      have l4 := hc 4 (by omega)
      have l5 := hc 5 (by omega)
      have l6 := hc 6 (by omega)
      have l7 := hc 7 (by omega)
      have l8 := hc 8 (by omega)
      have l9 := hc 9 (by omega)
      have l10 := hc 10 (by omega)
      have hcall := hp wr (rec es kk) BW.out
      clear hp HR hc
      generalize hy : rec es kk = y at l0 l1 l2 l3 l4 l5 l6 l7 l8 l9 l10 hcall
      have B : Hid (rec es kk = y) := hy
      clear hy
      cases hq : p y with
      | true =>
        rw [hq] at hcall
        have HC := hid hcall
        clear hcall
        go_wp2_with fail
        refine HC.out.mono ?_
        clear HC
        rintro e w' ⟨rfl, hb0⟩
        have hb' := hid hb0
        clear hb0 l0 l1 l2 l3 l4 l5 l6 l7 l8 l9 l10
        go_wp2
        go_ret
        exact ⟨retI (idxZ_some hlt A.out (by rw [B.out]; exact hq)).symm, hb'.out⟩
      | false =>
        rw [hq] at hcall
        have HC := hid hcall
        clear hcall
        go_wp2_with fail
        refine HC.out.mono ?_
        clear HC
        rintro e w' ⟨rfl, hb0⟩
        have hb' := hid hb0
        clear hb0 l0 l1 l2 l3 l4 l5 l6 l7 l8 l9 l10
        go_wp2
        go_roundg (es.length - (kk + 1))
        case measure => omega
        case rel =>
          refine ⟨kk + 1, by omega, by omega, by go_num, hb', (show Hid _ from fun j hj => ?_)⟩
          by_cases e : j = kk
          · rw [e, B.out]; exact hq
          · exact A.out j (by omega)
    · have hltz : ¬ (kk : Int) < (es.length : Int) := by omega
      clear hp
      go_wp2
      go_ret
      exact ⟨retI (idxZ_none (fun i hi => A.out i (by omega))).symm, BW.out⟩
abbrev newerV (t g0 g1 nx : Int) (uv : Value) : Value := .agg #[.int .i64 t, .int .i64 g0, .int .i64 g1, .int .i64 nx, uv]
abbrev newerC (t g0 g1 nx : Int) (uv : Value) : Array Value := #[.int .i64 t, .int .i64 g0, .int .i64 g1, .int .i64 nx, uv]
def stateN (t g0 g1 nx : Int) (ne : Nat) : Nat :=
  if inZ t 0 60 = true ∧ inZ nx 1 2001 = true then if inZ g0 0 1000 = true then if inZ g1 0 1000 = true then if 20 < ne then 2 else 0 else 1 else 1 else 1
set_option maxHeartbeats 4000000 in
theorem checkStateN_calls (t g0 g1 nx : Int) (ea : Option Addr) (ne ec : Nat) (w : World) :
    Calls Tryz.prog 86 #[newerV t g0 g1 nx (.slice ea ne ec)] w fun e w' => e = .returned (errV (stateN t g0 g1 nx ne)) ∧ Below w.heap.size w w' := by
  have i0 := gold_at0
  have i1 := gold_at1
  go_enter Tryz.func86, Tryz.ntmps86
  go_wp2_with fail
  refine (withinN_calls _ _ _ _).mono ?_
  rintro e w' ⟨rfl, rfl⟩
  cases h1 : inZ t 0 60
  · go_wp2
    go_ret
    exact ⟨retE (c := 1) (by simp [stateN, h1]) rfl, by go_grown⟩
  go_wp2_with fail
  refine (withinN_calls _ _ _ _).mono ?_
  rintro e w' ⟨rfl, rfl⟩
  cases h2 : inZ nx 1 2001
  · go_wp2
    go_ret
    exact ⟨retE (c := 1) (by simp [stateN, h2]) rfl, by go_grown⟩
  go_wp2_with fail
  refine wp_loop_rounds 3 ?_
  rw [rounds_succ]
  go_wp2_with fail
  refine (withinN_calls _ _ _ _).mono ?_
  rintro e w' ⟨rfl, rfl⟩
  cases h3 : inZ g0 0 1000
  · go_wp2
    go_ret
    exact ⟨retE (c := 1) (by simp [stateN, h3]) rfl, by go_grown⟩
  go_wp2_with fail
  rw [rounds_succ]
  go_wp2_with fail
  refine (withinN_calls _ _ _ _).mono ?_
  rintro e w' ⟨rfl, rfl⟩
  cases h4 : inZ g1 0 1000
  · go_wp2
    go_ret
    exact ⟨retE (c := 1) (by simp [stateN, h4]) rfl, by go_grown⟩
  go_wp2_with fail
  rw [rounds_succ]
  by_cases h5 : 20 < ne
  · have h5' : (20 : Int) < (ne : Int) := by omega
    go_wp2
    go_ret
    exact ⟨retE (c := 2) (by simp [stateN, h1, h2, h3, h4, h5]) rfl, by go_grown⟩
  have h5' : ¬ (20 : Int) < (ne : Int) := by omega
  go_wp2
  go_ret
  exact ⟨retE (c := 0) (by simp [stateN, h1, h2, h3, h4, h5]) rfl, by go_grown⟩
end Go.Proofs.YtcbalhicaipmlaaGreat
namespace Go.Proofs.YtcbalhicaipmlaaGreat
open Go.RowKit Go.Maps
def takeR (nw : Bool) (s : St) : Option (Int × St) :=
  if s.free = [] then (if topZ nw < s.nx then none else some (s.nx, { s with nx := s.nx + 1 })) else some (fld s.free (s.free.length - 1), { s with free := s.free.take (s.free.length - 1) })
def newR (nw : Bool) (t id o k x y : Int) : List Int := [id, o, k, x, y, fld (ruleL nw k) 1, 0, 0, 0, 0, if nw = true then t else 0]
def lateR (nw : Bool) (s : St) (u : List Int) (k x y : Int) : Bool := standsB x y s.es || (decide (1 < Pl.farZ (fld u 3) (fld u 4) x y) || (decide (goldOf s (fld u 1) < fld (ruleL nw k) 0) || ((s.es.length : Int) == 20)))
def soonR (nw : Bool) (u : List Int) (k x y : Int) : Bool := !hasB nw k || (k == 4 || (fld u 2 != 1 || !Pl.onB x y))
def finR (nw : Bool) (t : Int) (u : List Int) (k x y id : Int) (s1 : St) : St := { payS s1 (fld u 1) (fld (ruleL nw k) 0) with es := putR (newR nw t id (fld u 1) k x y) s1.es, born := s1.born ++ [id] }
def doneR (nw : Bool) (s : St) (u : List Int) (k x y : Int) : St :=
  match takeR nw s with
  | none => s
  | some (id, s1) => finR nw s.t u k x y id s1
def buildR (nw : Bool) (s : St) (u : List Int) (k x y : Int) : St :=
  if soonR nw u k x y = true then s else if lateR nw s u k x y = true then s else doneR nw s u k x y
theorem Gr.bornK {base : Nat} {w w9 : World} {p : Nat} {uv fv bv : Value} {nw : Bool} {s : St} (h : Gr base w p uv fv bv nw s) (id : Int) (hg9 : (w.alloc (.cells #[.int .i64 id] 3)).grownBy w9 bv.ownBlock) :
    w9.heap[p]? = some (.cells (refC nw s fv uv bv) 136) ∧ RowU base w9 uv s.es ∧ NRow base w9 fv s.free := by
  have h' := h.below ((Below.refl _ w).alloc (Nat.le_refl _) (.cells #[.int .i64 id] 3))
  exact ⟨(hg9.block p h'.lt (fun e => row_ne h'.br h'.hp (by decide) e.symm)).trans h'.hp, World.ownsRow.kept h'.er hg9 (row_row_ne h'.er h'.br (by decide)), World.ownsRow.kept h'.fr hg9 h'.fb⟩
theorem Gr.born {base : Nat} {w w9 : World} {p : Nat} {uv fv bv v9 : Value} {nw : Bool} {s : St} (h : Gr base w p uv fv bv nw s) (hbs : base ≤ w.heap.size) (id : Int) (hr9 : NRow base w9 v9 (s.born ++ [id])) (hg9 : (w.alloc (.cells #[.int .i64 id] 3)).grownBy w9 bv.ownBlock)
    (hl9 : v9.ownBlock = bv.ownBlock ∨ v9.ownBlock = some (w.alloc (.cells #[.int .i64 id] 3)).heap.size) :
    GrE base (w9.setCell ⟨p, 7, none⟩ v9) p nw { s with born := s.born ++ [id] } ∧ Below base w (w9.setCell ⟨p, 7, none⟩ v9) ∧ Fr w (w9.setCell ⟨p, 7, none⟩ v9) p := by
  obtain ⟨kp, ke, kf⟩ := h.bornK id hg9
  have hfb : fv.ownBlock = none ∨ fv.ownBlock ≠ v9.ownBlock := by
    rcases hl9 with e | e
    · rw [e]; exact h.fb
    · refine Or.inr fun e2 => ?_
      have h2 := (World.ownsRow.lt h.fr _ (e2.trans e)).2
      simp [go_sem] at h2
      omega
  have ho : ∀ k, k ≠ p → (w9.setCell ⟨p, 7, none⟩ v9).heap[k]? = w9.heap[k]? := fun k hk => heap_setCell_other w9 ⟨p, 7, none⟩ k v9 (fun e => hk e)
  have hG9 : Gr base (w9.setCell ⟨p, 7, none⟩ v9) p uv fv v9 nw { s with born := s.born ++ [id] } := by
    refine ⟨?_, ?_, ?_, ?_, h.bp, hfb⟩
    · exact heap_setCell_same w9 p 7 _ _ v9 kp
    · exact row_other ke fun g hg => ho g fun e => row_ne ke kp (by decide) (by rw [hg, e])
    · exact row_other kf fun g hg => ho g fun e => row_ne kf kp (by decide) (by rw [hg, e])
    · exact row_other hr9 fun g hg => ho g fun e => row_ne hr9 kp (by decide) (by rw [hg, e])
  refine ⟨⟨_, _, _, hG9⟩, ((((Below.refl _ w).alloc hbs _).grown hg9 (by simp [go_sem]; omega) (fun k hk => (World.ownsRow.lt h.br k hk).1))).setCell (p := ⟨p, 7, none⟩) h.bp _, h.frame hG9 ?_ ?_ (fun _ hk => Or.inl hk) (fun _ hk => Or.inl hk) ?_⟩
  · have h1 := hg9.size
    simp [go_sem] at h1 ⊢
    omega
  · intro k hk hkp _ _ hkb
    rw [ho k hkp, hg9.block k (by simp [go_sem]; omega) (fun e => hkb e.symm), heap_alloc_old _ _ hk]
  · intro k hk
    rcases hl9 with e | e
    · exact Or.inl (e.symm.trans hk)
    · have h2 := e.symm.trans hk
      simp only [Option.some.injEq] at h2
      simp [go_sem] at h2
      exact Or.inr (by omega)
theorem Gr.take {base : Nat} {w w9 : World} {p : Nat} {uv fv bv v9 : Value} {nw : Bool} {s : St} (h : Gr base w p uv fv bv nw s) (hbs : base ≤ w.heap.size) (fr : List Int) (hr9 : NRow base w9 v9 fr) (hg9 : w.grownBy w9 none) (hl9 : v9.ownBlock = none ∨ v9.ownBlock = some w.heap.size) :
    Gr base (w9.setCell ⟨p, 5, none⟩ v9) p uv v9 bv nw { s with free := fr } ∧ Below base w (w9.setCell ⟨p, 5, none⟩ v9) ∧ Below w.heap.size w w9 ∧ Fr w (w9.setCell ⟨p, 5, none⟩ v9) p := by
  have hb : Below w.heap.size w w9 := (Below.refl _ w).grown hg9 (Nat.le_refl _) (fun k hk => by cases hk)
  have h' := h.below hb
  have hfb : v9.ownBlock = none ∨ v9.ownBlock ≠ bv.ownBlock := by
    rcases hl9 with e | e
    · exact Or.inl e
    · refine Or.inr fun e2 => ?_
      have h2 := (World.ownsRow.lt h.br _ (e2.symm.trans e)).2
      omega
  have hG5 := h'.pset 5 v9 (s' := { s with free := fr }) rfl h'.er hr9 h'.br hfb
  refine ⟨hG5, (hb.mono hbs).setCell (p := ⟨p, 5, none⟩) h.bp _, hb, h.frame hG5 (by have := hb.size; simp; omega) (fun k hk hkp _ _ _ => ?_) (fun _ hk => Or.inl hk) (fun k hk => Or.inr ?_) (fun _ hk => Or.inl hk)⟩
  · rw [heap_setCell_other w9 ⟨p, 5, none⟩ k v9 (fun e => hkp e), hb.block k hk]
  · rcases hl9 with e | e
    · rw [e] at hk; cases hk
    · have h2 := e.symm.trans hk
      simp only [Option.some.injEq] at h2
      omega
end Go.Proofs.YtcbalhicaipmlaaGreat
namespace Go.Proofs.YtcbalhicaipmlaaGreat
open Go.RowKit Go.Maps
def stopR (s : St) (i : Nat) : St := { s with es := s.es.set i (tellR (rec s.es i) 0 0 0 0) }
end Go.Proofs.YtcbalhicaipmlaaGreat
namespace Go.Proofs.YtcbalhicaipmlaaGreat
open Go.RowKit Go.Maps
def isB (old : List Int) (id : Int) : Bool := old.any fun x => x == id
def Keep (W : World) (ob : Option Nat) (w : World) : Prop := Below 0 W w ∧ ∀ k, k < W.heap.size → ob ≠ some k → w.heap[k]? = W.heap[k]?
theorem Keep.refl (W : World) (ob : Option Nat) : Keep W ob W := ⟨Below.refl _ _, fun _ _ _ => rfl⟩
theorem Keep.below {W w w' : World} {ob : Option Nat} (h : Keep W ob w) (hb : Below w.heap.size w w') : Keep W ob w' :=
  ⟨h.1.trans (hb.mono (Nat.zero_le _)), fun k hk hn => (hb.block k (Nat.lt_of_lt_of_le hk h.1.size)).trans (h.2 k hk hn)⟩
theorem Keep.set {W w : World} {g : Nat} (h : Keep W (some g) w) (j : Nat) (v : Value) : Keep W (some g) (w.setCell ⟨g, j, none⟩ v) :=
  ⟨h.1.setCell (p := ⟨g, j, none⟩) (Nat.zero_le _) v, fun k hk hn => (heap_setCell_other w ⟨g, j, none⟩ k v (fun e => hn (by rw [e]))).trans (h.2 k hk hn)⟩
theorem Keep.base {W w : World} {ob : Option Nat} {B : Nat} (h : Keep W ob w) (hB : B ≤ W.heap.size) (ho : ∀ k, ob = some k → B ≤ k) : Below B W w :=
  ⟨h.1.os, h.1.tape, h.1.output, h.1.size, fun k hk => h.2 k (by omega) (fun e => by have := ho k e; omega)⟩
theorem Keep.cell {W w : World} {ob : Option Nat} (h : Keep W ob w) {p : Addr} (hp : p.block < W.heap.size) (hn : ob ≠ some p.block) : w.cell? p = W.cell? p := by
  unfold World.cell?
  rw [h.2 p.block hp hn]
end Go.Proofs.YtcbalhicaipmlaaGreat
namespace Go.Proofs.YtcbalhicaipmlaaGreat
open Go.RowKit Go.Maps
def headXN (t u : List Int) : Int := if fld u 6 = 1 then fld u 7 else if fld u 6 = 2 ∨ fld u 6 = 3 then fld t 3 else 0
def headYN (t u : List Int) : Int := if fld u 6 = 1 then fld u 8 else if fld u 6 = 2 ∨ fld u 6 = 3 then fld t 4 else 0
def headBN (t u : List Int) : Bool := if fld u 6 = 1 then true else if fld u 6 = 2 ∨ fld u 6 = 3 then !nearN u t else false
end Go.Proofs.YtcbalhicaipmlaaGreat
