/- Package newer of the program: what one wishes. -/
import Derived.BigQuiet
import Derived.Test.YtmnddahkbmlibaaNsNwO
import Derived.Test.YtmnddahkbmlibaaNsNwI
namespace Go.Proofs.Ytmnddahkbmlibaa
open Go.RowKit Go.Maps
def wishN (t u : List Int) : Option (Int × Int) := if headBN t u = true ∧ Pl.nSpeed (fld u 2) ≠ 0 ∧ (Pl.nearZ (fld u 3) (headXN t u) ≠ fld u 3 ∨ Pl.nearZ (fld u 4) (headYN t u) ≠ fld u 4) then some (Pl.nearZ (fld u 3) (headXN t u), Pl.nearZ (fld u 4) (headYN t u)) else none
def wishRN (t u : List Int) (v : Value) : Prop := ∃ x y : Int, v = .tuple #[.agg #[.int .i64 x, .int .i64 y], .bool (wishN t u).isSome] ∧ ∀ q, wishN t u = some q → q = (x, y)
theorem wishN_none {t u : List Int} (h : ¬ (headBN t u = true ∧ Pl.nSpeed (fld u 2) ≠ 0)) : wishN t u = none := by
  unfold wishN
  rw [if_neg (fun x => h ⟨x.1, x.2.1⟩)]
set_option maxRecDepth 100000 in
set_option maxHeartbeats 8000000 in
theorem wishN_calls (base p B : Nat) (uv : Value) (s : St) (f : Int → Option Value) (old : Int) (u : List Int) (k : Nat) (w : World) (hn : s.es.length ≤ 1000) (hu : OnU u) (ha : AimN s.es f u k) (hh : headBN (rec s.es k) u = true → (0 ≤ headXN (rec s.es k) u ∧ headXN (rec s.es k) u < 12) ∧ 0 ≤ headYN (rec s.es k) u ∧ headYN (rec s.es k) u < 12) (h : GmN base w p uv B s f old) :
    Calls Try.prog 159 #[.pointer (some ⟨p, 0, none⟩), unitV u] w fun e w' => ∃ v, e = .returned v ∧ wishRN (rec s.es k) u v ∧ Below w.heap.size w w' := by
  have HG := hid h
  have hlt := h.lt
  obtain ⟨W, hW⟩ : ∃ W, (w.alloc (.cells (unitC u) 110)).alloc (.cells #[.int .i64 0, .int .i64 0] 214) = W := ⟨_, rfl⟩
  have hbW : Below w.heap.size w W := by rw [← hW]; exact ((Below.refl _ w).alloc (Nat.le_refl _) _).alloc (by simp [go_sem]) _
  have hsW : W.heap.size = w.heap.size + 2 := by rw [← hW]; simp [go_sem]
  have hh0 : W.heap[w.heap.size]? = some (.cells (unitC u) 110) := by
    rw [← hW, heap_alloc_old _ _ (by simp [go_sem])]
    exact heap_alloc_new w _
  have hh1 : W.heap[w.heap.size + 1]? = some (.cells #[.int .i64 0, .int .i64 0] 214) := by
    have e : w.heap.size + 1 = (w.alloc (.cells (unitC u) 110)).heap.size := by simp [go_sem]
    rw [← hW, e]
    exact heap_alloc_new _ _
  have c0 : ∀ j, W.cell? ⟨w.heap.size, j, none⟩ = (unitC u)[j]? := fun j => cell_of_row W _ j _ _ _ hh0
  have x0 : W.cell? ⟨w.heap.size, 0, none⟩ = some (.int .i64 (fld u 0)) := c0 0
  have x1 : W.cell? ⟨w.heap.size, 1, none⟩ = some (.int .i64 (fld u 1)) := c0 1
  have x2 : W.cell? ⟨w.heap.size, 2, none⟩ = some (.int .i64 (fld u 2)) := c0 2
  have x3 : W.cell? ⟨w.heap.size, 3, none⟩ = some (.int .i64 (fld u 3)) := c0 3
  have x4 : W.cell? ⟨w.heap.size, 4, none⟩ = some (.int .i64 (fld u 4)) := c0 4
  have x5 : W.cell? ⟨w.heap.size, 5, none⟩ = some (.int .i64 (fld u 5)) := c0 5
  have x6 : W.cell? ⟨w.heap.size, 6, none⟩ = some (.int .i64 (fld u 6)) := c0 6
  have x7 : W.cell? ⟨w.heap.size, 7, none⟩ = some (.int .i64 (fld u 7)) := c0 7
  have x8 : W.cell? ⟨w.heap.size, 8, none⟩ = some (.int .i64 (fld u 8)) := c0 8
  have x9 : W.cell? ⟨w.heap.size, 9, none⟩ = some (.int .i64 (fld u 9)) := c0 9
  have x10 : W.cell? ⟨w.heap.size, 10, none⟩ = some (.int .i64 (fld u 10)) := c0 10
  have HBW := hid hbW
  have HSW := hid hsW
  have H0 := hid hh0
  have H1 := hid hh1
  have HC := hid (headingN_calls base p B uv s f old u k W hn hu ha (HG.out.below hbW))
  have HU := hid hu
  have HH := hid hh
  clear hbW hsW hh0 hh1 c0 hu ha hh h
  generalize rec s.es k = T at HC HH ⊢
  go_enter Try.func159, Try.ntmps159
  go_wp2_with fail
  refine HC.out.mono ?_
  rintro e w2 ⟨rfl, hb2⟩
  clear HC x0 x1 x2 x3 x4 x5 x6 x7 x8 x9 x10 hW
  obtain ⟨V, hV⟩ : ∃ V, w2.alloc (.cells #[.int .i64 (headXN T u), .int .i64 (headYN T u)] 214) = V := ⟨_, rfl⟩
  have hbV : Below W.heap.size W V := by rw [← hV]; exact hb2.alloc hb2.size _
  have hVb : V.heap[w2.heap.size]? = some (.cells #[.int .i64 (headXN T u), .int .i64 (headYN T u)] 214) := by rw [← hV]; exact heap_alloc_new _ _
  have hsV : w2.heap.size < V.heap.size := (Array.getElem?_eq_some_iff.1 hVb).1
  have hs2 : w.heap.size + 2 ≤ w2.heap.size := by have := hb2.size; rw [HSW.out] at this; exact this
  have HBV := hid hbV
  have HVb := hid hVb
  clear hb2 hVb
  have KX : ∀ j w', Below V.heap.size V w' → w'.cell? ⟨w.heap.size, j, none⟩ = (unitC u)[j]? := fun j w' h => cell_of_row w' _ j _ _ _ ((h.block _ (show w.heap.size < V.heap.size by omega)).trans ((hbV.block _ (by rw [HSW.out]; omega)).trans H0.out))
  have x0 : ∀ w', Below V.heap.size V w' → w'.cell? ⟨w.heap.size, 0, none⟩ = some (.int .i64 (fld u 0)) := KX 0
  have x1 : ∀ w', Below V.heap.size V w' → w'.cell? ⟨w.heap.size, 1, none⟩ = some (.int .i64 (fld u 1)) := KX 1
  have x2 : ∀ w', Below V.heap.size V w' → w'.cell? ⟨w.heap.size, 2, none⟩ = some (.int .i64 (fld u 2)) := KX 2
  have x3 : ∀ w', Below V.heap.size V w' → w'.cell? ⟨w.heap.size, 3, none⟩ = some (.int .i64 (fld u 3)) := KX 3
  have x4 : ∀ w', Below V.heap.size V w' → w'.cell? ⟨w.heap.size, 4, none⟩ = some (.int .i64 (fld u 4)) := KX 4
  have x5 : ∀ w', Below V.heap.size V w' → w'.cell? ⟨w.heap.size, 5, none⟩ = some (.int .i64 (fld u 5)) := KX 5
  have x6 : ∀ w', Below V.heap.size V w' → w'.cell? ⟨w.heap.size, 6, none⟩ = some (.int .i64 (fld u 6)) := KX 6
  have x7 : ∀ w', Below V.heap.size V w' → w'.cell? ⟨w.heap.size, 7, none⟩ = some (.int .i64 (fld u 7)) := KX 7
  have x8 : ∀ w', Below V.heap.size V w' → w'.cell? ⟨w.heap.size, 8, none⟩ = some (.int .i64 (fld u 8)) := KX 8
  have x9 : ∀ w', Below V.heap.size V w' → w'.cell? ⟨w.heap.size, 9, none⟩ = some (.int .i64 (fld u 9)) := KX 9
  have x10 : ∀ w', Below V.heap.size V w' → w'.cell? ⟨w.heap.size, 10, none⟩ = some (.int .i64 (fld u 10)) := KX 10
  have P0 : ∀ w', Below V.heap.size V w' → w'.heap[w2.heap.size]? = some (.cells #[.int .i64 (headXN T u), .int .i64 (headYN T u)] 214) := fun w' h => (h.block _ hsV).trans HVb.out
  have P1 : ∀ w', Below V.heap.size V w' → w'.heap[w.heap.size + 1]? = some (.cells #[.int .i64 0, .int .i64 0] 214) := fun w' h => (h.block _ (show w.heap.size + 1 < V.heap.size by omega)).trans ((hbV.block _ (by rw [HSW.out]; omega)).trans H1.out)
  have HP0 := hid P0
  have HP1 := hid P1
  clear KX hbV P0 P1
  have fr := field_rule2
  have HN : Hid (∀ (wx : World), Below V.heap.size V wx → Below w.heap.size w wx) := fun wx h => HBW.out.trans ((HBV.out.mono (by rw [HSW.out]; omega)).trans (h.mono (by omega)))
  cases hb : headBN T u with
  | false =>
    have HE : Hid (wishN T u = none) := wishN_none (fun h => by rw [hb] at h; exact absurd h.1 (by simp))
    have hq1 := HP1.out V (Below.refl _ _)
    have q0 := cell_of_row V _ 0 _ _ _ hq1
    have q1 := cell_of_row V _ 1 _ _ _ hq1
    have qf0 := frozen_of_row V (w.heap.size + 1) 0 _ _ hq1
    have qf1 := frozen_of_row V (w.heap.size + 1) 1 _ _ hq1
    clear x0 x1 x2 x3 x4 x5 x6 x7 x8 x9 x10 hb
    go_wp2
    exact bodyPost_ret (v := .tuple #[.agg #[.int .i64 0, .int .i64 0], .bool false]) (by simp [results, Try.results159, go_sem, q0, q1]) rfl ⟨_, rfl, ⟨0, 0, by rw [HE.out]; rfl, fun q h => by rw [HE.out] at h; cases h⟩, ((HN.out _ (Below.refl _ _)).setCell (p := ⟨w.heap.size + 1, 0, none⟩) (Nat.le_succ _) _).setCell (p := ⟨w.heap.size + 1, 1, none⟩) (Nat.le_succ _) _⟩
  | true =>
    have HHB := hid hb
    clear hb
    have v0 := x0 V (Below.refl _ _)
    have v1 := x1 V (Below.refl _ _)
    have v2 := x2 V (Below.refl _ _)
    have v3 := x3 V (Below.refl _ _)
    have v4 := x4 V (Below.refl _ _)
    have v5 := x5 V (Below.refl _ _)
    have v6 := x6 V (Below.refl _ _)
    have v7 := x7 V (Below.refl _ _)
    have v8 := x8 V (Below.refl _ _)
    have v9 := x9 V (Below.refl _ _)
    have v10 := x10 V (Below.refl _ _)
    have HX3 := hid x3
    have HX4 := hid x4
    clear x0 x1 x2 x3 x4 x5 x6 x7 x8 x9 x10
    go_wp2_with fail
    refine (rule_newer_calls u _).mono ?_
    rintro e wc ⟨rfl, hbc⟩
    have HBc := hid hbc
    have hq1 := HP1.out wc HBc.out
    have q0 := cell_of_row wc _ 0 _ _ _ hq1
    have q1 := cell_of_row wc _ 1 _ _ _ hq1
    have qf0 := frozen_of_row wc (w.heap.size + 1) 0 _ _ hq1
    have qf1 := frozen_of_row wc (w.heap.size + 1) 1 _ _ hq1
    have x3' := HX3.out wc HBc.out
    have x4' := HX4.out wc HBc.out
    have hq2 := HP0.out wc HBc.out
    have t0 := cell_of_row wc _ 0 _ _ _ hq2
    have t1 := cell_of_row wc _ 1 _ _ _ hq2
    clear v0 v1 v2 v3 v4 v5 v6 v7 v8 v9 v10 hq1 hq2 hbc hV
    cases hst : (Pl.nSpeed (fld u 2) == 0) with
    | true =>
      have HE : Hid (wishN T u = none) := wishN_none (fun h => h.2 (by simpa using hst))
      go_wp2
      exact bodyPost_ret (v := .tuple #[.agg #[.int .i64 0, .int .i64 0], .bool false]) (by simp [results, Try.results159, go_sem, q0, q1]) rfl ⟨_, rfl, ⟨0, 0, by rw [HE.out]; rfl, fun q h => by rw [HE.out] at h; cases h⟩, ((HN.out _ HBc.out).setCell (p := ⟨w.heap.size + 1, 0, none⟩) (Nat.le_succ _) _).setCell (p := ⟨w.heap.size + 1, 1, none⟩) (Nat.le_succ _) _⟩
    | false =>
      have HSP : Hid (Pl.nSpeed (fld u 2) ≠ 0) := by show _ ≠ _; simpa using hst
      go_wp2_with fail
      refine (toward_calls _ _ _ _ HU.out (HH.out HHB.out) _).mono ?_
      rintro e w4 ⟨rfl, rfl⟩
      go_wp2_with fail
      have hna : (headBN T u = true ∧ Pl.nSpeed (fld u 2) ≠ 0) := ⟨HHB.out, HSP.out⟩
      have HE : Hid (wishN T u = if Pl.nearZ (fld u 3) (headXN T u) ≠ fld u 3 ∨ Pl.nearZ (fld u 4) (headYN T u) ≠ fld u 4 then some (Pl.nearZ (fld u 3) (headXN T u), Pl.nearZ (fld u 4) (headYN T u)) else none) := by
        show _ = _
        unfold wishN
        by_cases hd : Pl.nearZ (fld u 3) (headXN T u) ≠ fld u 3 ∨ Pl.nearZ (fld u 4) (headYN T u) ≠ fld u 4
        · rw [if_pos ⟨hna.1, hna.2, hd⟩, if_pos hd]
        · rw [if_neg (fun h => hd h.2.2), if_neg hd]
      clear hna t0 t1
      generalize hX : Pl.nearZ (fld u 3) (headXN T u) = X at HE ⊢
      generalize hY : Pl.nearZ (fld u 4) (headYN T u) = Y at HE ⊢
      clear hX hY
      cases h3 : (X == fld u 3) with
      | false =>
        have HS : Hid (wishN T u = some (X, Y)) := by
          show _ = _
          rw [HE.out, if_pos (Or.inl (by simpa using h3))]
        have n3 : (X != fld u 3) = true := by rw [bne, h3]; rfl
        clear h3 HE
        go_region
        all_goals
          go_wp2
          exact bodyPost_ret (v := .tuple #[.agg #[.int .i64 X, .int .i64 Y], .bool true]) (by simp [results, Try.results159, go_sem, q0, q1]) rfl ⟨_, rfl, ⟨X, Y, by rw [HS.out]; rfl, fun q h => by rw [HS.out] at h; cases h; rfl⟩, ((HN.out _ HBc.out.drew).setCell (p := ⟨w.heap.size + 1, 0, none⟩) (Nat.le_succ _) _).setCell (p := ⟨w.heap.size + 1, 1, none⟩) (Nat.le_succ _) _⟩
      | true =>
        have n3 : (X != fld u 3) = false := by rw [bne, h3]; rfl
        cases h4 : (Y == fld u 4)
        · have HS : Hid (wishN T u = some (X, Y)) := by
            show _ = _
            rw [HE.out, if_pos (Or.inr (by simpa using h4))]
          have n4 : (Y != fld u 4) = true := by rw [bne, h4]; rfl
          clear h3 h4 HE
          go_region
          all_goals
            go_wp2
            exact bodyPost_ret (v := .tuple #[.agg #[.int .i64 X, .int .i64 Y], .bool true]) (by simp [results, Try.results159, go_sem, q0, q1]) rfl ⟨_, rfl, ⟨X, Y, by rw [HS.out]; rfl, fun q h => by rw [HS.out] at h; cases h; rfl⟩, ((HN.out _ HBc.out.drew).setCell (p := ⟨w.heap.size + 1, 0, none⟩) (Nat.le_succ _) _).setCell (p := ⟨w.heap.size + 1, 1, none⟩) (Nat.le_succ _) _⟩
        · have HS : Hid (wishN T u = none) := by
            show _ = _
            rw [HE.out, if_neg (by rw [beq_iff_eq] at h3 h4; exact fun h => h.elim (fun x => x h3) (fun x => x h4))]
          have n4 : (Y != fld u 4) = false := by rw [bne, h4]; rfl
          clear h3 h4 HE
          go_region
          all_goals
            go_wp2
            exact bodyPost_ret (v := .tuple #[.agg #[.int .i64 X, .int .i64 Y], .bool false]) (by simp [results, Try.results159, go_sem, q0, q1]) rfl ⟨_, rfl, ⟨X, Y, by rw [HS.out]; rfl, fun q h => by rw [HS.out] at h; cases h⟩, ((HN.out _ HBc.out.drew).setCell (p := ⟨w.heap.size + 1, 0, none⟩) (Nat.le_succ _) _).setCell (p := ⟨w.heap.size + 1, 1, none⟩) (Nat.le_succ _) _⟩
end Go.Proofs.Ytmnddahkbmlibaa
namespace Go.Proofs.Ytmnddahkbmlibaa
open Go.RowKit Go.Maps
def arriveP (u : List Int) : List Int := if fld u 6 = 1 ∧ fld u 3 = fld u 7 ∧ fld u 4 = fld u 8 then tellR u 0 0 0 0 else u
set_option maxRecDepth 100000 in
set_option maxHeartbeats 8000000 in
theorem arriveN_calls (base p B : Nat) (uv : Value) (s : St) (f : Int → Option Value) (o : Nat) (w : World) (hlen : s.es.length ≤ 1000) (ho : o ≤ s.es.length) (h : GmN base w p uv B s f o) :
    Calls Try.prog 108 #[.pointer (some ⟨p, 0, none⟩)] w fun e w' => e = .returned (.tuple #[]) ∧ GmN base w' p uv B { s with es := mapK arriveP s.es o } f o ∧ Below base w w' := by
  obtain ⟨ea, c, rfl, hcap, hrecs, hg0⟩ := h.er.open
  have HE0 := hid hg0
  have d4 := h.cell 4
  have d6 := h.cell 6
  have HG0 : Hid (GmN base w p (.slice ea s.es.length c) B { s with es := mapK arriveP s.es 0 } f o) := by
    show GmN _ _ _ _ _ _ _ _
    rw [mapK_zero]
    exact h
  have hoc : (o : Int) ≤ (c : Int) := by omega
  have ho0 : (0 : Int) ≤ (o : Int) := by omega
  have hoc' : o ≤ c := by omega
  clear h hrecs hg0
  go_enter Try.func108, Try.ntmps108
  go_wp2_with fail
  go_quiet (fail)
  clear d4 d6
  have HGq : Hid (GmN base (w.drewN nq) p (.slice ea s.es.length c) B { s with es := mapK arriveP s.es 0 } f o) := HG0.out.below (below_drewN (Below.refl _ w) nq)
  have HBq : Hid (Below base w (w.drewN nq)) := below_drewN (Below.refl _ w) nq
  clear HG0
  generalize w.drewN nq = wq at HGq HBq ⊢
  go_wp2
  go_loopw [15] (fun i wr => ∃ k : Nat, k ≤ o ∧ i = .int .i64 k ∧ Hid (GmN base wr p (.slice ea s.es.length c) B { s with es := mapK arriveP s.es k } f o) ∧ Hid (Below base w wr)) (fun i _ => o - (intOf i).toNat)
  case atStart => exact ⟨0, Nat.zero_le _, rfl, HGq, HBq⟩
  case round =>
    clear HGq HBq
    obtain ⟨k, hk, rfl, HGk, HBk⟩ := hrel
    by_cases hko : k < o
    · have hkz : (k : Int) < (o : Int) := by omega
      have hkl : k < s.es.length := by omega
      have hkl' : (k : Int) < (s.es.length : Int) := by omega
      have hlk : (mapK arriveP s.es k).length = s.es.length := mapK_length _ _ (by omega)
      obtain ⟨g, rfl, hbg, hgl⟩ := HE0.out (by omega)
      have hkl2 : k < ({ s with es := mapK arriveP s.es k } : St).es.length := by show k < (mapK arriveP s.es k).length; omega
      obtain ⟨hc, hf⟩ := HGk.out.er.cells hkl2
      have hrk : rec ({ s with es := mapK arriveP s.es k } : St).es k = rec s.es k := by show rec (mapK arriveP s.es k) k = _; rw [mapK_rec _ _ (by omega) hkl, if_neg (by omega)]
      rw [hrk] at hc
      have l3 := hc 3 (by omega)
      have l4 := hc 4 (by omega)
      have l6 := hc 6 (by omega)
      have l7 := hc 7 (by omega)
      have l8 := hc 8 (by omega)
      have l9 := hc 9 (by omega)
      have f6 := hf (k * 11 + 6)
      have f7 := hf (k * 11 + 7)
      have f8 := hf (k * 11 + 8)
      have f9 := hf (k * 11 + 9)
      have d4 := HGk.out.cell 4
      have hpr := HGk.out.lt
      have HRK := hid hrk
      have HAU : Hid (arriveP (rec s.es k) = if fld (rec s.es k) 6 = 1 ∧ fld (rec s.es k) 3 = fld (rec s.es k) 7 ∧ fld (rec s.es k) 4 = fld (rec s.es k) 8 then tellR (rec s.es k) 0 0 0 0 else rec s.es k) := rfl
      clear hc hf hrk
      by_cases hall : fld (rec s.es k) 6 = 1 ∧ fld (rec s.es k) 3 = fld (rec s.es k) 7 ∧ fld (rec s.es k) 4 = fld (rec s.es k) 8
      · have HN : Hid (mapK arriveP s.es (k + 1) = (mapK arriveP s.es k).set k (tellR (rec s.es k) 0 0 0 0)) := by
          show _ = _
          rw [mapK_next _ _ hkl, HAU.out, if_pos hall]
        have b1 : (fld (rec s.es k) 6 == 1) = true := by simpa using hall.1
        have b2 : (fld (rec s.es k) 3 == fld (rec s.es k) 7) = true := by simpa using hall.2.1
        have b3 : (fld (rec s.es k) 4 == fld (rec s.es k) 8) = true := by simpa using hall.2.2
        clear hall
        go_wp2_with fail
        go_quiet (fail)
        have hG4 := gmN_tell (HGk.out.below (below_drewN (Below.refl _ wr) nq)) hkl2 0 0 0 0
        rw [HRK.out] at hG4
        have HG4 : Hid (GmN base (turnW (wr.drewN nq) g (k * 11) 0) p (.slice (some ⟨g, 0, none⟩) s.es.length c) B { s with es := mapK arriveP s.es (k + 1) } f o) := by
          show GmN _ _ _ _ _ _ _ _
          rw [HN.out]
          exact hG4
        have HB4 := hid (below_turnW (m := k * 11) (does := 0) (below_drewN HBk.out nq) hbg)
        clear hG4 l3 l4 d4 b1 b2 b3
        have t6 : (wr.drewN nq).cell? ⟨g, k * 11 + 6, none⟩ = _ := l6
        have t7 : (wr.drewN nq).cell? ⟨g, k * 11 + 7, none⟩ = _ := l7
        have t8 : (wr.drewN nq).cell? ⟨g, k * 11 + 8, none⟩ = _ := l8
        have t9 : (wr.drewN nq).cell? ⟨g, k * 11 + 9, none⟩ = _ := l9
        go_wp2_with fail
        refine (turnN_calls g (k * 11) 0 (wr.drewN nq) _ _ _ _ t6 t7 t8 t9 f6 f7 f8 f9).mono ?_
        rintro e w4 ⟨rfl, rfl⟩
        clear l6 l7 l8 l9 f6 f7 f8 f9 t6 t7 t8 t9
        generalize turnW (wr.drewN nq) g (k * 11) 0 = w4 at HG4 HB4
        go_wp2
        go_roundw
        case rel => exact ⟨k + 1, by omega, by go_num, HG4, HB4⟩
        case measure => simp [intOf]; omega
      · have HS : Hid (mapK arriveP s.es (k + 1) = mapK arriveP s.es k) := mapK_same _ _ hkl (by rw [HAU.out, if_neg hall])
        have HG4 : Hid (∀ n, GmN base (wr.drewN n) p (.slice (some ⟨g, 0, none⟩) s.es.length c) B { s with es := mapK arriveP s.es (k + 1) } f o) := fun n => by
          rw [HS.out]
          exact HGk.out.below (below_drewN (Below.refl _ wr) n)
        have hways : (fld (rec s.es k) 6 == 1) = false ∨ ((fld (rec s.es k) 6 == 1) = true ∧ ((fld (rec s.es k) 3 == fld (rec s.es k) 7) = false ∨ ((fld (rec s.es k) 3 == fld (rec s.es k) 7) = true ∧ (fld (rec s.es k) 4 == fld (rec s.es k) 8) = false))) := by
          by_cases h1 : fld (rec s.es k) 6 = 1
          · refine Or.inr ⟨by simpa using h1, ?_⟩
            by_cases h2 : fld (rec s.es k) 3 = fld (rec s.es k) 7
            · refine Or.inr ⟨by simpa using h2, ?_⟩
              rw [beq_eq_false_iff_ne]
              exact fun h3 => hall ⟨h1, h2, h3⟩
            · exact Or.inl (by simpa using h2)
          · exact Or.inl (by simpa using h1)
        clear hall HAU
        rcases hways with b1 | ⟨b1, b2 | ⟨b2, b3⟩⟩
        all_goals
          go_wp2_with fail
          go_quiet (fail)
          go_wp2
          go_roundw
          case rel => exact ⟨k + 1, by omega, by go_num, HG4.out _, below_drewN HBk.out _⟩
          case measure => simp [intOf]; omega
    · have hkz : ¬ (k : Int) < (o : Int) := by omega
      have hke : k = o := by omega
      subst hke
      go_wp2
      go_end0
      exact ⟨rfl, HGk.out, HBk.out⟩
end Go.Proofs.Ytmnddahkbmlibaa
