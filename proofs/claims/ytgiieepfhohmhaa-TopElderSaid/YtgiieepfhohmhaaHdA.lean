/- One record of the elder game, read and written as a whole. -/
import Derived.Test.YtgiieepfhohmhaaRefBA
import Derived.Deep.MidRow
import Derived.Deep.RegionHeld3
import Derived.Deep.DeepCutAuto
namespace Go.Proofs.Ytgiieepfhohmhaa
open Go.RowKit Go.Maps

abbrev zeroC : Array Value := #[.int .i64 0, .int .i64 0, .int .i64 0, .int .i64 0, .int .i64 0, .int .i64 0, .int .i64 0, .int .i64 0, .int .i64 0, .int .i64 0]
theorem ent_size : (Try.prog.info? 86).map (·.size) = some 10 := by kernel_rfl
theorem recL_ent (u : List Int) : (recL 10 u).toArray = entC u := rfl
theorem recL_one (u : List Int) : ∀ v ∈ recL 10 u, v.oneCell' = true := by
  intro v hv
  simp only [recL, List.mem_map] at hv
  obtain ⟨j, _, rfl⟩ := hv
  rfl
theorem ent_range {w : World} {b o : Nat} {u : List Int} (h : ∀ j, j < 10 → w.cell? ⟨b, o + j, none⟩ = some (.int .i64 (fld u j))) : w.rangeAt b o (recL 10 u) := fun j v hv => by
  have hj : j < 10 := by
    have := (List.getElem?_eq_some_iff.1 hv).1
    rwa [recL_length] at this
  rw [recL_get u hj] at hv
  rw [h j hj]
  exact hv
theorem load_ent {w : World} {b o : Nat} {u : List Int} (h : ∀ j, j < 10 → w.cell? ⟨b, o + j, none⟩ = some (.int .i64 (fld u j))) :
    (Instr.loadAt 86 (.pointer (some ⟨b, o, none⟩))).run Try.prog w = .ok (entV u) w :=
  run_loadAt_mid w b o 86 (recL 10 u) _ (ent_range h) Try.underlying86 rfl (by rw [recL_length]; exact ent_size)
/- The world with one record written. -/
def entW (w : World) (b o : Nat) (u : List Int) : World := w.setCells b o (recL 10 u)
theorem store_ent {w : World} {b o : Nat} (u : List Int) (h : ∀ j, j < 10 → (w.cell? ⟨b, o + j, none⟩).isSome = true ∧ w.frozen? ⟨b, o + j, none⟩ = false) :
    (Instr.storeAt 86 (.pointer (some ⟨b, o, none⟩)) (entV u)).run Try.prog w = .ok () (entW w b o u) := by
  have := run_storeAt_mid (P := Try.prog) w b o 86 (recL 10 u).toArray (fun j hj => h j (by simpa [recL_length] using hj)) (by rw [List.size_toArray, recL_length]; exact ent_size) (all_oneCell_toArray (recL_one u))
  exact this
theorem heap_setCells_other (b : Nat) : ∀ (vs : List Value) (o : Nat) (w : World) (k : Nat), k ≠ b → (w.setCells b o vs).heap[k]? = w.heap[k]?
  | [], _, _, _, _ => rfl
  | v :: r, o, w, k, h => by
    rw [World.setCells, heap_setCells_other b r (o + 1) _ k h]
    exact heap_setCell_other w ⟨b, o, none⟩ k v (fun e => h e)
theorem below_setCells {B b : Nat} {a : World} (hb : B ≤ b) : ∀ (vs : List Value) (o : Nat) (w : World), Below B a w → Below B a (w.setCells b o vs)
  | [], _, _, h => h
  | v :: r, o, w, h => by
    rw [World.setCells]
    exact below_setCells hb r (o + 1) _ (h.setCell (p := ⟨b, o, none⟩) hb v)
theorem below_entW {B b o : Nat} {a w : World} {u : List Int} (h : Below B a w) (hb : B ≤ b) : Below B a (entW w b o u) := below_setCells hb _ _ _ h
theorem entW_other {w : World} {b o : Nat} {u : List Int} {k : Nat} (h : k ≠ b) : (entW w b o u).heap[k]? = w.heap[k]? := heap_setCells_other b _ _ _ _ h
theorem entW_cell {w : World} {b o : Nat} {u : List Int} (h : ∀ j, j < 10 → (w.cell? ⟨b, o + j, none⟩).isSome = true) : ∀ j, j < 10 → (entW w b o u).cell? ⟨b, o + j, none⟩ = some (.int .i64 (fld u j)) := fun j hj => by
  have := World.cell?_setCells_in b (recL 10 u) o w (fun i hi => h i (by rwa [recL_length] at hi)) j (by rw [recL_length]; exact hj)
  unfold entW
  rw [this]
  simp [recL]
/- A box that was laid empty. -/
def Box0 (w : World) (b : Nat) : Prop := w.heap[b]? = some (.cells zeroC 86)
theorem Box0.there {w : World} {b : Nat} (h : Box0 w b) : ∀ j, j < 10 → (w.cell? ⟨b, 0 + j, none⟩).isSome = true ∧ w.frozen? ⟨b, 0 + j, none⟩ = false := fun j hj => by
  refine ⟨?_, frozen_of_row w b (0 + j) _ _ h⟩
  rw [cell_of_row w b (0 + j) _ _ _ h, Nat.zero_add]
  match j, hj with
  | 0, _ => rfl
  | 1, _ => rfl
  | 2, _ => rfl
  | 3, _ => rfl
  | 4, _ => rfl
  | 5, _ => rfl
  | 6, _ => rfl
  | 7, _ => rfl
  | 8, _ => rfl
  | 9, _ => rfl
theorem Box0.store {w : World} {b : Nat} (h : Box0 w b) (u : List Int) : (Instr.storeAt 86 (.pointer (some ⟨b, 0, none⟩)) (entV u)).run Try.prog w = .ok () (entW w b 0 u) := store_ent u h.there
theorem Box0.cells {w : World} {b : Nat} (h : Box0 w b) (u : List Int) : ∀ j, j < 10 → (entW w b 0 u).cell? ⟨b, j, none⟩ = some (.int .i64 (fld u j)) := fun j hj => by
  have := entW_cell (u := u) (fun j hj => (h.there j hj).1) j hj
  rwa [Nat.zero_add] at this
theorem Box0.new (w : World) : Box0 (w.alloc (.cells zeroC 86)) w.heap.size := heap_alloc_new w _
theorem Box0.below {w w' : World} {b : Nat} (h : Box0 w b) (hb : Below w.heap.size w w') : Box0 w' b := by
  unfold Box0 at h ⊢
  rw [hb.block b (Array.getElem?_eq_some_iff.1 h).1]
  exact h
theorem Box0.drew {w : World} {b : Nat} (h : Box0 w b) : Box0 w.drew b := h
theorem entW_nest (w : World) (b : Nat) (u : List Int) : (((((((((w.setCell ⟨b, 0, none⟩ (.int .i64 (fld u 0))).setCell ⟨b, 1, none⟩ (.int .i64 (fld u 1))).setCell ⟨b, 2, none⟩ (.int .i64 (fld u 2))).setCell ⟨b, 3, none⟩ (.int .i64 (fld u 3))).setCell ⟨b, 4, none⟩ (.int .i64 (fld u 4))).setCell ⟨b, 5, none⟩ (.int .i64 (fld u 5))).setCell ⟨b, 6, none⟩ (.int .i64 (fld u 6))).setCell ⟨b, 7, none⟩ (.int .i64 (fld u 7))).setCell ⟨b, 8, none⟩ (.int .i64 (fld u 8))).setCell ⟨b, 9, none⟩ (.int .i64 (fld u 9)) = entW w b 0 u := rfl
theorem Box0.zero {w : World} {b : Nat} (h : Box0 w b) : ∀ j, j < 10 → w.cell? ⟨b, j, none⟩ = some (.int .i64 0) := fun j hj => by
  rw [cell_of_row w b j _ _ _ h]
  match j, hj with
  | 0, _ => rfl
  | 1, _ => rfl
  | 2, _ => rfl
  | 3, _ => rfl
  | 4, _ => rfl
  | 5, _ => rfl
  | 6, _ => rfl
  | 7, _ => rfl
  | 8, _ => rfl
  | 9, _ => rfl
theorem Box0.free {w : World} {b : Nat} (h : Box0 w b) (j : Nat) : w.frozen? ⟨b, j, none⟩ = false := frozen_of_row w b j _ _ h
theorem box_cells {w : World} {b : Nat} {u : List Int} (h : w.heap[b]? = some (.cells (entC u) 86)) : ∀ j, j < 10 → w.cell? ⟨b, j, none⟩ = some (.int .i64 (fld u j)) := fun j hj => by
  rw [cell_of_row w b j _ _ _ h]
  match j, hj with
  | 0, _ => rfl
  | 1, _ => rfl
  | 2, _ => rfl
  | 3, _ => rfl
  | 4, _ => rfl
  | 5, _ => rfl
  | 6, _ => rfl
  | 7, _ => rfl
  | 8, _ => rfl
  | 9, _ => rfl
/- A record of a row, in every world that has kept what was there. -/
theorem Recs.held {W : World} {g : Nat} {es : List (List Int)} (h : Recs W (some ⟨g, 0, none⟩) 10 es) {k : Nat} (hk : k < es.length) {t : List Int} (ht : rec es k = t) :
    ∀ j, j < 10 → ∀ w', Below W.heap.size W w' → w'.cell? ⟨g, k * 10 + j, none⟩ = some (.int .i64 (fld t j)) := fun j hj w' hb => by
  obtain ⟨b', o', hbo, hc⟩ := (h.below hb).at hk
  cases hbo
  have := hc j hj
  rw [Nat.zero_add] at this
  rw [← ht]
  exact this
end Go.Proofs.Ytgiieepfhohmhaa

/- A tick under way: where one heads. -/
namespace Go.Proofs.Ytgiieepfhohmhaa
open Go.RowKit Go.Maps

/- All below m, and block b, are as they were. -/
def Kept (m b : Nat) (W w' : World) : Prop := Below m W w' ∧ w'.heap[b]? = W.heap[b]?
theorem Kept.start (m b : Nat) (W : World) : Kept m b W W.drew := ⟨(Below.refl _ _).drew, rfl⟩
theorem Kept.call {m b : Nat} {W w' w2 : World} (h : Kept m b W w') (hm : m ≤ W.heap.size) (hb : b < W.heap.size) (h2 : Below w'.heap.size w' w2) : Kept m b W w2 :=
  ⟨h.1.trans (h2.mono (Nat.le_trans hm h.1.size)), (h2.block b (Nat.lt_of_lt_of_le hb h.1.size)).trans h.2⟩
theorem Kept.set {m b : Nat} {W w' : World} (h : Kept m b W w') (hb : b ≠ m) (j : Nat) (v : Value) : Kept m b W (w'.setCell ⟨m, j, none⟩ v) :=
  ⟨h.1.setCell (p := ⟨m, j, none⟩) (Nat.le_refl _) v, (heap_setCell_other w' ⟨m, j, none⟩ b v (fun e => hb e)).trans h.2⟩
theorem Kept.cell {m b : Nat} {W w' : World} (h : Kept m b W w') {k : Nat} (hk : k < m ∨ k = b) (j : Nat) : w'.cell? ⟨k, j, none⟩ = W.cell? ⟨k, j, none⟩ := by
  rcases hk with hk | rfl
  · exact h.1.cell (p := ⟨k, j, none⟩) hk
  · exact World.cell?_of_block (w := W) (a := ⟨k, j, none⟩) h.2
def goX (es : List (List Int)) (u : List Int) : Int := if Pl.eSpeed (fld u 2) = 0 then fld u 3 else if fld u 6 = 1 then Pl.nearZ (fld u 3) (fld u 7) else if 0 ≤ idxZ (isId (fld u 9)) es ∧ nearE u (tgtE es u) = false then Pl.nearZ (fld u 3) (fld (tgtE es u) 3) else fld u 3
def goY (es : List (List Int)) (u : List Int) : Int := if Pl.eSpeed (fld u 2) = 0 then fld u 4 else if fld u 6 = 1 then Pl.nearZ (fld u 4) (fld u 8) else if 0 ≤ idxZ (isId (fld u 9)) es ∧ nearE u (tgtE es u) = false then Pl.nearZ (fld u 4) (fld (tgtE es u) 4) else fld u 4

set_option maxRecDepth 100000 in
set_option maxHeartbeats 8000000 in
theorem wishAt_calls (es : List (List Int)) (ea : Option Addr) (c : Nat) (u : List Int) (w : World) (hn : es.length ≤ 100) (hu : OnU u) (hg : fld u 6 = 1 → (0 ≤ fld u 7 ∧ fld u 7 < 12) ∧ 0 ≤ fld u 8 ∧ fld u 8 < 12) (ho : 0 ≤ idxZ (isId (fld u 9)) es → OnU (tgtE es u)) (hr : Recs w ea 10 es) :
    Calls Try.prog 196 #[.slice ea es.length c, entV u] w fun e w' => e = .returned (.tuple #[.int .i64 (goX es u), .int .i64 (goY es u)]) ∧ Below w.heap.size w w' := by
  obtain ⟨W, hW⟩ : ∃ W, w.alloc (.cells (entC u) 86) = W := ⟨_, rfl⟩
  have hbW : Below w.heap.size w W := by rw [← hW]; exact (Below.refl _ w).alloc (Nat.le_refl _) _
  have hsW : W.heap.size = w.heap.size + 1 := by rw [← hW]; simp [go_sem]
  have hh0 : W.heap[w.heap.size]? = some (.cells (entC u) 86) := by rw [← hW]; exact heap_alloc_new w _
  have KX : ∀ V, Below W.heap.size W V → ∀ j, V.cell? ⟨w.heap.size, j, none⟩ = (entC u)[j]? := fun V hV j => cell_of_row V _ j _ _ _ ((hV.block _ (by omega)).trans hh0)
  have HK := hid KX
  have HBW := hid hbW
  have HSW := hid hsW
  have HR := hid (hr.below hbW)
  have HU := hid hu
  have HG := hid hg
  have HO := hid ho
  have c0 := KX W (Below.refl _ _)
  have x0 : W.cell? ⟨w.heap.size, 0, none⟩ = some (.int .i64 (fld u 0)) := c0 0
  have x1 : W.cell? ⟨w.heap.size, 1, none⟩ = some (.int .i64 (fld u 1)) := c0 1
  have x2 : W.cell? ⟨w.heap.size, 2, none⟩ = some (.int .i64 (fld u 2)) := c0 2
  have x3 : W.cell? ⟨w.heap.size, 3, none⟩ = some (.int .i64 (fld u 3)) := c0 3
  have x4 : W.cell? ⟨w.heap.size, 4, none⟩ = some (.int .i64 (fld u 4)) := c0 4
  have x5 : W.cell? ⟨w.heap.size, 5, none⟩ = some (.int .i64 (fld u 5)) := c0 5
  have x6 : W.cell? ⟨w.heap.size, 6, none⟩ = some (.int .i64 (fld u 6)) := c0 6
  have x7 : W.cell? ⟨w.heap.size, 7, none⟩ = some (.int .i64 (fld u 7)) := c0 7
  have x8 : W.cell? ⟨w.heap.size, 8, none⟩ = some (.int .i64 (fld u 8)) := c0 8
  have x9 : W.cell? ⟨w.heap.size, 9, none⟩ = some (.int .i64 (fld u 9)) := c0 9
  clear hbW hsW hh0 KX c0 hr hu hg ho
  go_enter Try.func196, Try.ntmps196
  go_wp2_with fail
  refine (rule_elder_calls u _).mono ?_
  rintro e w1 ⟨rfl, hb1⟩
  clear x0 x1 x2 x3 x4 x5 x6 x7 x8 x9 hW
  have fr := field_rule2
  have c0 := HK.out w1 hb1
  have x3 : w1.cell? ⟨w.heap.size, 3, none⟩ = some (.int .i64 (fld u 3)) := c0 3
  have x4 : w1.cell? ⟨w.heap.size, 4, none⟩ = some (.int .i64 (fld u 4)) := c0 4
  have x6 : w1.cell? ⟨w.heap.size, 6, none⟩ = some (.int .i64 (fld u 6)) := c0 6
  have x7 : w1.cell? ⟨w.heap.size, 7, none⟩ = some (.int .i64 (fld u 7)) := c0 7
  have x8 : w1.cell? ⟨w.heap.size, 8, none⟩ = some (.int .i64 (fld u 8)) := c0 8
  have x9 : w1.cell? ⟨w.heap.size, 9, none⟩ = some (.int .i64 (fld u 9)) := c0 9
  have HB1 := hid hb1
  have HN : Hid (∀ V, Below W.heap.size W V → Below w.heap.size w V) := fun V h => HBW.out.trans (h.mono (by rw [HSW.out]; omega))
  clear hb1 c0
  by_cases hs : Pl.eSpeed (fld u 2) = 0
  · have HX : Hid (goX es u = fld u 3) := by show _ = _; unfold goX; rw [if_pos hs]
    have HY : Hid (goY es u = fld u 4) := by show _ = _; unfold goY; rw [if_pos hs]
    have b0 : (Pl.eSpeed (fld u 2) == 0) = true := by simpa using hs
    clear hs
    go_wp2_with fail
    go_quiet (fail)
    go_wp2
    go_ret2
    exact ⟨by rw [HX.out, HY.out]; rfl, HN.out _ (below_drewN HB1.out _)⟩
  have b0 : (Pl.eSpeed (fld u 2) == 0) = false := by simpa using hs
  by_cases h1 : fld u 6 = 1
  · have HX : Hid (goX es u = Pl.nearZ (fld u 3) (fld u 7)) := by show _ = _; unfold goX; rw [if_neg hs, if_pos h1]
    have HY : Hid (goY es u = Pl.nearZ (fld u 4) (fld u 8)) := by show _ = _; unfold goY; rw [if_neg hs, if_pos h1]
    have HG1 := hid (HG.out h1)
    have b1 : (fld u 6 == 1) = true := by simpa using h1
    clear h1 hs
    go_wp2_with fail
    refine (toward_calls _ _ _ _ HU.out HG1.out _).mono ?_
    rintro e w4 ⟨rfl, rfl⟩
    go_wp2
    go_ret2
    exact ⟨by rw [HX.out, HY.out]; rfl, HN.out _ HB1.out⟩
  have b1 : (fld u 6 == 1) = false := by simpa using h1
  have HI := hid (index_calls (fld u 9) es ea c w1 (by omega) (HR.out.below HB1.out))
  go_wp2_with fail
  refine HI.out.mono ?_
  rintro e w2 ⟨rfl, hb2⟩
  have HB2 : Hid (Below W.heap.size W w2) := HB1.out.trans (hb2.mono HB1.out.size)
  clear x3 x4 x6 x7 x8 x9 HI hb2 HB1
  by_cases hi : 0 ≤ idxZ (isId (fld u 9)) es
  case neg =>
    have hne : ¬ (0 ≤ idxZ (isId (fld u 9)) es ∧ nearE u (tgtE es u) = false) := fun h => hi h.1
    have HX : Hid (goX es u = fld u 3) := by show _ = _; unfold goX; rw [if_neg hs, if_neg h1, if_neg hne]
    have HY : Hid (goY es u = fld u 4) := by show _ = _; unfold goY; rw [if_neg hs, if_neg h1, if_neg hne]
    have c0 := HK.out w2 HB2.out
    have x3 : w2.cell? ⟨w.heap.size, 3, none⟩ = some (.int .i64 (fld u 3)) := c0 3
    have x4 : w2.cell? ⟨w.heap.size, 4, none⟩ = some (.int .i64 (fld u 4)) := c0 4
    have bi : decide (0 ≤ idxZ (isId (fld u 9)) es) = false := decide_eq_false hi
    clear hne hs h1 c0 hi
    go_wp2_with fail
    go_quiet (fail)
    go_wp2_with fail
    go_quiet (fail)
    go_wp2
    go_ret2
    exact ⟨by rw [HX.out, HY.out]; rfl, HN.out _ (below_drewN (below_drewN HB2.out _) _)⟩
  obtain ⟨k, hk⟩ : ∃ k : Nat, idxZ (isId (fld u 9)) es = k := ⟨(idxZ (isId (fld u 9)) es).toNat, by omega⟩
  have hkl : k < es.length := by have := (idxZ_bd (isId (fld u 9)) es).2; omega
  have htg : tgtE es u = rec es k := by unfold tgtE; rw [hk]; rfl
  have HT := hid (HO.out hi)
  have HX : Hid (goX es u = if nearE u (tgtE es u) = false then Pl.nearZ (fld u 3) (fld (tgtE es u) 3) else fld u 3) := by
    show _ = _
    unfold goX
    rw [if_neg hs, if_neg h1]
    by_cases hq : nearE u (tgtE es u) = false
    · rw [if_pos ⟨hi, hq⟩, if_pos hq]
    · rw [if_neg (fun h => hq h.2), if_neg hq]
  have HY : Hid (goY es u = if nearE u (tgtE es u) = false then Pl.nearZ (fld u 4) (fld (tgtE es u) 4) else fld u 4) := by
    show _ = _
    unfold goY
    rw [if_neg hs, if_neg h1]
    by_cases hq : nearE u (tgtE es u) = false
    · rw [if_pos ⟨hi, hq⟩, if_pos hq]
    · rw [if_neg (fun h => hq h.2), if_neg hq]
  have HRE : Hid (rec es k = tgtE es u) := htg.symm
  generalize tgtE es u = t at HT HX HY HRE
  have hlt : (k : Int) < (es.length : Int) := by omega
  rw [hk]
  obtain ⟨b, o, rfl, hc⟩ := (HR.out.below HB2.out).at hkl
  rw [HRE.out] at hc
  have hbb : b < w2.heap.size := World.block_lt_of_cell? w2 _ (hc 0 (by omega))
  have HC := hid hc
  have c0 := HK.out w2 HB2.out
  have x0 : w2.cell? ⟨w.heap.size, 0, none⟩ = some (.int .i64 (fld u 0)) := c0 0
  have x1 : w2.cell? ⟨w.heap.size, 1, none⟩ = some (.int .i64 (fld u 1)) := c0 1
  have x2 : w2.cell? ⟨w.heap.size, 2, none⟩ = some (.int .i64 (fld u 2)) := c0 2
  have x3 : w2.cell? ⟨w.heap.size, 3, none⟩ = some (.int .i64 (fld u 3)) := c0 3
  have x4 : w2.cell? ⟨w.heap.size, 4, none⟩ = some (.int .i64 (fld u 4)) := c0 4
  have x5 : w2.cell? ⟨w.heap.size, 5, none⟩ = some (.int .i64 (fld u 5)) := c0 5
  have x6 : w2.cell? ⟨w.heap.size, 6, none⟩ = some (.int .i64 (fld u 6)) := c0 6
  have x7 : w2.cell? ⟨w.heap.size, 7, none⟩ = some (.int .i64 (fld u 7)) := c0 7
  have x8 : w2.cell? ⟨w.heap.size, 8, none⟩ = some (.int .i64 (fld u 8)) := c0 8
  have x9 : w2.cell? ⟨w.heap.size, 9, none⟩ = some (.int .i64 (fld u 9)) := c0 9
  have l0 : w2.cell? ⟨b, o + k * 10, none⟩ = some (.int .i64 (fld t 0)) := hc 0 (by omega)
  have l1 := hc 1 (by omega)
  have l2 := hc 2 (by omega)
  have l3 := hc 3 (by omega)
  have l4 := hc 4 (by omega)
  have l5 := hc 5 (by omega)
  have l6 := hc 6 (by omega)
  have l7 := hc 7 (by omega)
  have l8 := hc 8 (by omega)
  have l9 := hc 9 (by omega)
  clear hs h1 hi hk htg hc c0 HRE HR
  cases hq : nearE u t with
  | false =>
    rw [if_pos hq] at HX HY
    have HQ := hid hq
    clear hq
    go_wp2_with fail
    go_region_with (go_at_call 133; refine (near_calls u t _ HU.out HT.out).mono ?_; rintro e w3 ⟨rfl, hb3⟩; rw [HQ.out])
    all_goals
      have HB3 : Hid (Below w2.heap.size w2 w3) := ((Below.refl _ _).drew).trans (hb3.mono (by simp [go_sem]))
      clear hb3 x0 x1 x2 x3 x4 x5 x6 x7 x8 x9 l0 l1 l2 l3 l4 l5 l6 l7 l8 l9
      have HB4 : Hid (Below W.heap.size W w3) := HB2.out.trans (HB3.out.mono HB2.out.size)
      have c0 := HK.out w3 HB4.out
      have x3 : w3.cell? ⟨w.heap.size, 3, none⟩ = some (.int .i64 (fld u 3)) := c0 3
      have x4 : w3.cell? ⟨w.heap.size, 4, none⟩ = some (.int .i64 (fld u 4)) := c0 4
      have l3 : w3.cell? ⟨b, o + k * 10 + 3, none⟩ = some (.int .i64 (fld t 3)) := (HB3.out.cell (p := ⟨b, o + k * 10 + 3, none⟩) hbb).trans (HC.out 3 (by omega))
      have l4 : w3.cell? ⟨b, o + k * 10 + 4, none⟩ = some (.int .i64 (fld t 4)) := (HB3.out.cell (p := ⟨b, o + k * 10 + 4, none⟩) hbb).trans (HC.out 4 (by omega))
      clear c0
      go_wp2_with fail
      go_quiet ((go_at_call 32; exact Calls.quiet_of_same (toward_calls _ _ _ _ HU.out HT.out _)))
      go_wp2
      go_ret2
      exact ⟨by rw [HX.out, HY.out]; rfl, HN.out _ (below_drewN HB4.out _)⟩
  | true =>
    rw [if_neg (by rw [hq]; simp)] at HX HY
    have HQ := hid hq
    clear hq
    go_wp2_with fail
    go_region_with (go_at_call 133; refine (near_calls u t _ HU.out HT.out).mono ?_; rintro e w3 ⟨rfl, hb3⟩; rw [HQ.out])
    all_goals
      have HB3 : Hid (Below w2.heap.size w2 w3) := ((Below.refl _ _).drew).trans (hb3.mono (by simp [go_sem]))
      clear hb3 x0 x1 x2 x3 x4 x5 x6 x7 x8 x9 l0 l1 l2 l3 l4 l5 l6 l7 l8 l9
      have HB4 : Hid (Below W.heap.size W w3) := HB2.out.trans (HB3.out.mono HB2.out.size)
      have c0 := HK.out w3 HB4.out
      have x3 : w3.cell? ⟨w.heap.size, 3, none⟩ = some (.int .i64 (fld u 3)) := c0 3
      have x4 : w3.cell? ⟨w.heap.size, 4, none⟩ = some (.int .i64 (fld u 4)) := c0 4
      clear c0
      go_wp2_with fail
      go_quiet (fail)
      go_wp2
      go_ret2
      exact ⟨by rw [HX.out, HY.out]; rfl, HN.out _ (below_drewN HB4.out _)⟩
end Go.Proofs.Ytgiieepfhohmhaa
