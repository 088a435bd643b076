/- Package newer of the program: where one heads. -/
import Derived.Deep.DeepCutAuto
import Derived.Test.YtmnddahkbmlibaaNsRefBA
import Derived.Test.YtmnddahkbmlibaaNsNwI
namespace Go.Proofs.Ytmnddahkbmlibaa
open Go.RowKit Go.Maps
def headXN (t u : List Int) : Int := if fld u 6 = 1 then fld u 7 else if fld u 6 = 2 ∨ fld u 6 = 3 then fld t 3 else 0
def headYN (t u : List Int) : Int := if fld u 6 = 1 then fld u 8 else if fld u 6 = 2 ∨ fld u 6 = 3 then fld t 4 else 0
def headBN (t u : List Int) : Bool := if fld u 6 = 1 then true else if fld u 6 = 2 ∨ fld u 6 = 3 then !nearN u t else false
def AimN (es : List (List Int)) (f : Int → Option Value) (u : List Int) (k : Nat) : Prop := fld u 6 = 2 ∨ fld u 6 = 3 → f (fld u 9) = some (inV k) ∧ k < es.length ∧ OnU (rec es k)
def uniW (w : World) (b o : Nat) (u : List Int) : World := w.setCells b o (recL 11 u)
theorem uniW_nest (w : World) (b : Nat) (u : List Int) : ((((((((((w.setCell ⟨b, 0, none⟩ (.int .i64 (fld u 0))).setCell ⟨b, 1, none⟩ (.int .i64 (fld u 1))).setCell ⟨b, 2, none⟩ (.int .i64 (fld u 2))).setCell ⟨b, 3, none⟩ (.int .i64 (fld u 3))).setCell ⟨b, 4, none⟩ (.int .i64 (fld u 4))).setCell ⟨b, 5, none⟩ (.int .i64 (fld u 5))).setCell ⟨b, 6, none⟩ (.int .i64 (fld u 6))).setCell ⟨b, 7, none⟩ (.int .i64 (fld u 7))).setCell ⟨b, 8, none⟩ (.int .i64 (fld u 8))).setCell ⟨b, 9, none⟩ (.int .i64 (fld u 9))).setCell ⟨b, 10, none⟩ (.int .i64 (fld u 10)) = uniW w b 0 u := rfl
theorem below_uniW {B b o : Nat} {a w : World} {u : List Int} (h : Below B a w) (hb : B ≤ b) : Below B a (uniW w b o u) := below_setCells hb _ _ _ h
theorem boxU_cells {w : World} {b : Nat} {u : List Int} (h : w.heap[b]? = some (.cells (unitC u) 110)) : ∀ j, j < 11 → w.cell? ⟨b, j, none⟩ = some (.int .i64 (fld u j)) := fun j hj => by
  rw [cell_of_row w b j _ _ _ h]
  match j, hj with
  | 0, _ => rfl
  | 1, _ => rfl
  | 2, _ => rfl
  | 3, _ => rfl
  | 4, _ => rfl
  | 5, _ => rfl
  | 6, _ => rfl
  | 7, _ => rfl
  | 8, _ => rfl
  | 9, _ => rfl
  | 10, _ => rfl
set_option maxRecDepth 100000 in
set_option maxHeartbeats 8000000 in
theorem headingN_calls (base p B : Nat) (uv : Value) (s : St) (f : Int → Option Value) (old : Int) (u : List Int) (k : Nat) (w : World) (hn : s.es.length ≤ 1000) (hu : OnU u) (ha : AimN s.es f u k) (h : GmN base w p uv B s f old) :
    Calls Try.prog 191 #[.pointer (some ⟨p, 0, none⟩), unitV u] w fun e w' => e = .returned (.tuple #[.agg #[.int .i64 (headXN (rec s.es k) u), .int .i64 (headYN (rec s.es k) u)], .bool (headBN (rec s.es k) u)]) ∧ Below w.heap.size w w' := by
  obtain ⟨ea, c, rfl, hcap, hrecs, hg0'⟩ := h.er.open
  have hlt := h.lt
  obtain ⟨W, hW⟩ : ∃ W, (w.alloc (.cells (unitC u) 110)).alloc (.cells #[.int .i64 0, .int .i64 0] 214) = W := ⟨_, rfl⟩
  have hbW : Below w.heap.size w W := by rw [← hW]; exact ((Below.refl _ w).alloc (Nat.le_refl _) _).alloc (by simp [go_sem]) _
  have hsW : W.heap.size = w.heap.size + 2 := by rw [← hW]; simp [go_sem]
  have hh0 : W.heap[w.heap.size]? = some (.cells (unitC u) 110) := by
    rw [← hW, heap_alloc_old _ _ (by simp [go_sem])]
    exact heap_alloc_new w _
  have hh1 : W.heap[w.heap.size + 1]? = some (.cells #[.int .i64 0, .int .i64 0] 214) := by
    have e : w.heap.size + 1 = (w.alloc (.cells (unitC u) 110)).heap.size := by simp [go_sem]
    rw [← hW, e]
    exact heap_alloc_new _ _
  have c0 : ∀ j, W.cell? ⟨w.heap.size, j, none⟩ = (unitC u)[j]? := fun j => cell_of_row W _ j _ _ _ hh0
  have p0 : W.cell? ⟨w.heap.size + 1, 0, none⟩ = some (.int .i64 0) := cell_of_row W _ 0 _ _ _ hh1
  have p1 : W.cell? ⟨w.heap.size + 1, 1, none⟩ = some (.int .i64 0) := cell_of_row W _ 1 _ _ _ hh1
  have pf := fun j => frozen_of_row W (w.heap.size + 1) j _ _ hh1
  have x0 : W.cell? ⟨w.heap.size, 0, none⟩ = some (.int .i64 (fld u 0)) := c0 0
  have x1 : W.cell? ⟨w.heap.size, 1, none⟩ = some (.int .i64 (fld u 1)) := c0 1
  have x2 : W.cell? ⟨w.heap.size, 2, none⟩ = some (.int .i64 (fld u 2)) := c0 2
  have x3 : W.cell? ⟨w.heap.size, 3, none⟩ = some (.int .i64 (fld u 3)) := c0 3
  have x4 : W.cell? ⟨w.heap.size, 4, none⟩ = some (.int .i64 (fld u 4)) := c0 4
  have x5 : W.cell? ⟨w.heap.size, 5, none⟩ = some (.int .i64 (fld u 5)) := c0 5
  have x6 : W.cell? ⟨w.heap.size, 6, none⟩ = some (.int .i64 (fld u 6)) := c0 6
  have x7 : W.cell? ⟨w.heap.size, 7, none⟩ = some (.int .i64 (fld u 7)) := c0 7
  have x8 : W.cell? ⟨w.heap.size, 8, none⟩ = some (.int .i64 (fld u 8)) := c0 8
  have x9 : W.cell? ⟨w.heap.size, 9, none⟩ = some (.int .i64 (fld u 9)) := c0 9
  have x10 : W.cell? ⟨w.heap.size, 10, none⟩ = some (.int .i64 (fld u 10)) := c0 10
  have HBW := hid hbW
  have HSW := hid hsW
  have H0 := hid hh0
  have H1 := hid hh1
  have HU := hid hu
  have HA := hid ha
  have HG := hid (h.below hbW)
  have HR := hid (hrecs.below hbW)
  have HE0 := hid hg0'
  have d4 := (h.below hbW).cell 4
  have d5 := (h.below hbW).cell 5
  clear hbW hsW hh0 hh1 c0 hu ha h hrecs hg0'
  by_cases h1 : fld u 6 = 1
  · have HX : Hid (headXN (rec s.es k) u = fld u 7) := by show _ = _; unfold headXN; rw [if_pos h1]
    have HY : Hid (headYN (rec s.es k) u = fld u 8) := by show _ = _; unfold headYN; rw [if_pos h1]
    have HZ : Hid (headBN (rec s.es k) u = true) := by show _ = _; unfold headBN; rw [if_pos h1]
    have b1 : (fld u 6 == 1) = true := by simpa using h1
    rw [HX.out, HY.out, HZ.out]
    clear h1
    go_enter Try.func191, Try.ntmps191
    go_wp2
    exact bodyPost_ret (v := .tuple #[.agg #[.int .i64 (fld u 7), .int .i64 (fld u 8)], .bool true]) (by simp [results, Try.results191, go_sem, p0, p1]) rfl ⟨rfl, (HBW.out.setCell (p := ⟨w.heap.size + 1, 0, none⟩) (Nat.le_succ _) _).setCell (p := ⟨w.heap.size + 1, 1, none⟩) (Nat.le_succ _) _⟩
  have b1 : (fld u 6 == 1) = false := by simpa using h1
  by_cases h23 : fld u 6 = 2 ∨ fld u 6 = 3
  case neg =>
    have HX : Hid (headXN (rec s.es k) u = 0) := by show _ = _; unfold headXN; rw [if_neg h1, if_neg h23]
    have HY : Hid (headYN (rec s.es k) u = 0) := by show _ = _; unfold headYN; rw [if_neg h1, if_neg h23]
    have HZ : Hid (headBN (rec s.es k) u = false) := by show _ = _; unfold headBN; rw [if_neg h1, if_neg h23]
    have b2 : (fld u 6 == 2) = false := by simpa using fun e => h23 (Or.inl e)
    have b3 : (fld u 6 == 3) = false := by simpa using fun e => h23 (Or.inr e)
    rw [HX.out, HY.out, HZ.out]
    clear h1 h23
    go_enter Try.func191, Try.ntmps191
    go_wp2
    exact bodyPost_ret (v := .tuple #[.agg #[.int .i64 0, .int .i64 0], .bool false]) (by simp [results, Try.results191, go_sem, p0, p1]) rfl ⟨rfl, (HBW.out.setCell (p := ⟨w.heap.size + 1, 0, none⟩) (Nat.le_succ _) _).setCell (p := ⟨w.heap.size + 1, 1, none⟩) (Nat.le_succ _) _⟩
  obtain ⟨hfk, hkl, hot⟩ := HA.out h23
  have HX : Hid (headXN (rec s.es k) u = fld (rec s.es k) 3) := by show _ = _; unfold headXN; rw [if_neg h1, if_pos h23]
  have HY : Hid (headYN (rec s.es k) u = fld (rec s.es k) 4) := by show _ = _; unfold headYN; rw [if_neg h1, if_pos h23]
  have HZ : Hid (headBN (rec s.es k) u = !nearN u (rec s.es k)) := by show _ = _; unfold headBN; rw [if_neg h1, if_pos h23]
  rw [HX.out, HY.out, HZ.out]
  obtain ⟨t, ht⟩ : ∃ t, rec s.es k = t := ⟨_, rfl⟩
  rw [ht] at hot ⊢
  have HOT := hid hot
  have HT : Hid (rec s.es k = t) := ht
  have hkz : (k : Int) < (s.es.length : Int) := by omega
  obtain ⟨g, rfl, hbg, hgl⟩ := HE0.out (by omega)
  have b23 : ((fld u 6 == 2) = true) ∨ ((fld u 6 == 2) = false ∧ (fld u 6 == 3) = true) := by
    rcases h23 with h | h
    · exact Or.inl (by simpa using h)
    · exact Or.inr ⟨by rw [h]; rfl, by simpa using h⟩
  have SLK : ∀ w', Below W.heap.size W w' → (Instr.lookup 141 (.map (some B)) (.int .i64 (fld u 9)) false).run Try.prog w' = .ok (.int .i64 k) w' := fun w' hb => by
    have hh := (HG.out.below hb).wh.look (fld u 9)
    rw [hfk] at hh
    exact hh
  clear hot ht h23 h1 HX HY HZ HA hfk
  clear x0 x1 x2 x3 x4 x5 x7 x8 x10
  have hwW : w.heap.size < W.heap.size := by rw [HSW.out]; omega
  have hpW : p < W.heap.size := by rw [HSW.out]; omega
  have hgW : g < W.heap.size := by rw [HSW.out]; omega
  have S4 : ∀ w', Below W.heap.size W w' → w'.cell? ⟨p, 4, none⟩ = some (.slice (some ⟨g, 0, none⟩) s.es.length c) := fun w' h => (h.cell (p := ⟨p, 4, none⟩) hpW).trans d4
  have S5 : ∀ w', Below W.heap.size W w' → w'.cell? ⟨p, 5, none⟩ = some (.map (some B)) := fun w' h => (h.cell (p := ⟨p, 5, none⟩) hpW).trans d5
  have S9 : ∀ w', Below W.heap.size W w' → w'.cell? ⟨w.heap.size, 9, none⟩ = some (.int .i64 (fld u 9)) := fun w' h => (h.cell (p := ⟨w.heap.size, 9, none⟩) hwW).trans x9
  have SLs := HR.out.heldU hkl HT.out
  have SL0 : ∀ w', Below W.heap.size W w' → w'.cell? ⟨g, k * 11, none⟩ = some (.int .i64 (fld t 0)) := SLs 0 (by omega)
  have SL1 := SLs 1 (by omega)
  have SL2 := SLs 2 (by omega)
  have SL3 := SLs 3 (by omega)
  have SL4 := SLs 4 (by omega)
  have SL5 := SLs 5 (by omega)
  have SL6 := SLs 6 (by omega)
  have SL7 := SLs 7 (by omega)
  have SL8 := SLs 8 (by omega)
  have SL9 := SLs 9 (by omega)
  have SL10 := SLs 10 (by omega)
  clear SLs
  rcases b23 with b2 | ⟨b2, b3⟩
  all_goals
    go_enter Try.func191, Try.ntmps191
    go_wp2_with fail
    go_cut [6] (fun r wx => ∃ b, r = .pointer (some ⟨b, 0, none⟩) ∧ Hid ((∀ j, j < 11 → wx.cell? ⟨b, j, none⟩ = some (.int .i64 (fld t j))) ∧ W.heap.size ≤ b ∧ Below W.heap.size W wx))
    case first =>
      clear x6 x9 d4 d5 p0 p1 pf hW
      go_region_held3 (fun w' => Below W.heap.size W w') (first | (rw [uniW_nest]; exact below_uniW (by assumption) (Nat.le_refl _)) | with_reducible exact (Below.refl _ _).drew | with_reducible exact ((Below.refl _ _).alloc (Nat.le_refl _) _).drew | exact Below.alloc (by assumption) (Below.size (by assumption)) _)
        (fail)
      all_goals
        go_wp2
        go_meet
        exact ⟨_, rfl, boxU_cells (heap_alloc_new W (.cells (unitC t) 110)), Nat.le_refl _, ((Below.refl _ W).alloc (Nat.le_refl _) _).drew⟩
    case rest =>
      obtain ⟨b, rfl, HM⟩ := hcut
      clear x6 x9 d4 d5 p0 p1 pf hW S4 S5 S9 SLK SL0 SL1 SL2 SL3 SL4 SL5 SL6 SL7 SL8 SL9 SL10
      have hbW : w.heap.size + 2 ≤ b := by have := HM.out.2.1; rw [HSW.out] at this; exact this
      have hsc : w.heap.size + 2 ≤ wc.heap.size := by have := HM.out.2.2.size; rw [HSW.out] at this; exact this
      have hbc : b < wc.heap.size := World.block_lt_of_cell? wc _ (HM.out.1 0 (by omega))
      have c0 : ∀ j, wc.cell? ⟨w.heap.size, j, none⟩ = (unitC u)[j]? := fun j => cell_of_row wc _ j _ _ _ ((HM.out.2.2.block _ (by rw [HSW.out]; omega)).trans H0.out)
      have q0 := (HM.out.2.2.block (w.heap.size + 1) (by rw [HSW.out]; omega)).trans H1.out
      have Q0 := hid q0
      have KX : ∀ j w', Kept (w.heap.size + 1) b wc w' → w'.cell? ⟨w.heap.size, j, none⟩ = (unitC u)[j]? := fun j w' h => (h.cell (Or.inl (Nat.lt_succ_self _)) j).trans (c0 j)
      have KZ : ∀ j, j < 11 → ∀ w', Kept (w.heap.size + 1) b wc w' → w'.cell? ⟨b, j, none⟩ = some (.int .i64 (fld t j)) := fun j hj w' h => (h.cell (Or.inr rfl) j).trans (HM.out.1 j hj)
      have x0 : ∀ w', Kept (w.heap.size + 1) b wc w' → w'.cell? ⟨w.heap.size, 0, none⟩ = some (.int .i64 (fld u 0)) := KX 0
      have x1 : ∀ w', Kept (w.heap.size + 1) b wc w' → w'.cell? ⟨w.heap.size, 1, none⟩ = some (.int .i64 (fld u 1)) := KX 1
      have x2 : ∀ w', Kept (w.heap.size + 1) b wc w' → w'.cell? ⟨w.heap.size, 2, none⟩ = some (.int .i64 (fld u 2)) := KX 2
      have x3 : ∀ w', Kept (w.heap.size + 1) b wc w' → w'.cell? ⟨w.heap.size, 3, none⟩ = some (.int .i64 (fld u 3)) := KX 3
      have x4 : ∀ w', Kept (w.heap.size + 1) b wc w' → w'.cell? ⟨w.heap.size, 4, none⟩ = some (.int .i64 (fld u 4)) := KX 4
      have x5 : ∀ w', Kept (w.heap.size + 1) b wc w' → w'.cell? ⟨w.heap.size, 5, none⟩ = some (.int .i64 (fld u 5)) := KX 5
      have x6 : ∀ w', Kept (w.heap.size + 1) b wc w' → w'.cell? ⟨w.heap.size, 6, none⟩ = some (.int .i64 (fld u 6)) := KX 6
      have x7 : ∀ w', Kept (w.heap.size + 1) b wc w' → w'.cell? ⟨w.heap.size, 7, none⟩ = some (.int .i64 (fld u 7)) := KX 7
      have x8 : ∀ w', Kept (w.heap.size + 1) b wc w' → w'.cell? ⟨w.heap.size, 8, none⟩ = some (.int .i64 (fld u 8)) := KX 8
      have x9 : ∀ w', Kept (w.heap.size + 1) b wc w' → w'.cell? ⟨w.heap.size, 9, none⟩ = some (.int .i64 (fld u 9)) := KX 9
      have x10 : ∀ w', Kept (w.heap.size + 1) b wc w' → w'.cell? ⟨w.heap.size, 10, none⟩ = some (.int .i64 (fld u 10)) := KX 10
      have z0 := KZ 0 (by omega)
      have z1 := KZ 1 (by omega)
      have z2 := KZ 2 (by omega)
      have z3 := KZ 3 (by omega)
      have z4 := KZ 4 (by omega)
      have z5 := KZ 5 (by omega)
      have z6 := KZ 6 (by omega)
      have z7 := KZ 7 (by omega)
      have z8 := KZ 8 (by omega)
      have z9 := KZ 9 (by omega)
      have z10 := KZ 10 (by omega)
      have HBc : Hid (Below w.heap.size w wc) := HBW.out.trans (HM.out.2.2.mono (by rw [HSW.out]; omega))
      have hne : b ≠ w.heap.size + 1 := by omega
      clear c0 q0 KX KZ HM
      go_wp2_with fail
      go_region_held3 (fun w' => Kept (w.heap.size + 1) b wc w') (first | with_reducible exact HK3.out | exact Kept.start _ _ _ | (refine Kept.set (Kept.set (by assumption) hne _ _) hne _ _))
        (first
          | (go_at_call 160; refine (nearN_calls u t _ HU.out HOT.out).mono ?_; rintro e w3 ⟨rfl, hb3⟩; have HK3 : Hid (Kept (w.heap.size + 1) b wc w3) := Kept.call (by assumption) (by omega) hbc hb3; have hq3 := (hb3.block (w.heap.size + 1) (by simp [go_sem]; omega)).trans Q0.out; have q0 := cell_of_row w3 _ 0 _ _ _ hq3; have q1 := cell_of_row w3 _ 1 _ _ _ hq3; have qf0 := frozen_of_row w3 (w.heap.size + 1) 0 _ _ hq3; have qf1 := frozen_of_row w3 (w.heap.size + 1) 1 _ _ hq3; clear hb3 hq3))
      all_goals
        clear x0 x1 x2 x3 x4 x5 x6 x7 x8 x9 x10 z0 z1 z2 z3 z4 z5 z6 z7 z8 z9 z10
        go_wp2
        exact bodyPost_ret (v := .tuple #[.agg #[.int .i64 (fld t 3), .int .i64 (fld t 4)], .bool !nearN u t]) (by simp [results, Try.results191, go_sem, q0, q1]) rfl ⟨rfl, HBc.out.trans (((HK3.out.1.mono (Nat.le_succ _)).setCell (p := ⟨w.heap.size + 1, 0, none⟩) (Nat.le_succ _) _).setCell (p := ⟨w.heap.size + 1, 1, none⟩) (Nat.le_succ _) _)⟩
end Go.Proofs.Ytmnddahkbmlibaa
