/- One record of the elder game, read and written as a whole. -/
import Derived.Test.YtibckacgojnikaaRefBA
import Derived.Deep.MidRow
import Derived.Deep.RegionHeld3
import Derived.Deep.DeepCutAuto
namespace Go.Proofs.Ytibckacgojnikaa
open Go.RowKit Go.Maps

abbrev zeroC : Array Value := #[.int .i64 0, .int .i64 0, .int .i64 0, .int .i64 0, .int .i64 0, .int .i64 0, .int .i64 0, .int .i64 0, .int .i64 0, .int .i64 0]
theorem ent_size : (Try.prog.info? 86).map (·.size) = some 10 := by kernel_rfl
theorem recL_ent (u : List Int) : (recL 10 u).toArray = entC u := rfl
theorem recL_one (u : List Int) : ∀ v ∈ recL 10 u, v.oneCell' = true := by
  intro v hv
  simp only [recL, List.mem_map] at hv
  obtain ⟨j, _, rfl⟩ := hv
  rfl
theorem ent_range {w : World} {b o : Nat} {u : List Int} (h : ∀ j, j < 10 → w.cell? ⟨b, o + j, none⟩ = some (.int .i64 (fld u j))) : w.rangeAt b o (recL 10 u) := fun j v hv => by
  have hj : j < 10 := by
    have := (List.getElem?_eq_some_iff.1 hv).1
    rwa [recL_length] at this
  rw [recL_get u hj] at hv
  rw [h j hj]
  exact hv
theorem load_ent {w : World} {b o : Nat} {u : List Int} (h : ∀ j, j < 10 → w.cell? ⟨b, o + j, none⟩ = some (.int .i64 (fld u j))) :
    (Instr.loadAt 86 (.pointer (some ⟨b, o, none⟩))).run Try.prog w = .ok (entV u) w :=
  run_loadAt_mid w b o 86 (recL 10 u) _ (ent_range h) Try.underlying86 rfl (by rw [recL_length]; exact ent_size)
/- The world with one record written. -/
def entW (w : World) (b o : Nat) (u : List Int) : World := w.setCells b o (recL 10 u)
theorem store_ent {w : World} {b o : Nat} (u : List Int) (h : ∀ j, j < 10 → (w.cell? ⟨b, o + j, none⟩).isSome = true ∧ w.frozen? ⟨b, o + j, none⟩ = false) :
    (Instr.storeAt 86 (.pointer (some ⟨b, o, none⟩)) (entV u)).run Try.prog w = .ok () (entW w b o u) := by
  have := run_storeAt_mid (P := Try.prog) w b o 86 (recL 10 u).toArray (fun j hj => h j (by simpa [recL_length] using hj)) (by rw [List.size_toArray, recL_length]; exact ent_size) (all_oneCell_toArray (recL_one u))
  exact this
theorem heap_setCells_other (b : Nat) : ∀ (vs : List Value) (o : Nat) (w : World) (k : Nat), k ≠ b → (w.setCells b o vs).heap[k]? = w.heap[k]?
  | [], _, _, _, _ => rfl
  | v :: r, o, w, k, h => by
    rw [World.setCells, heap_setCells_other b r (o + 1) _ k h]
    exact heap_setCell_other w ⟨b, o, none⟩ k v (fun e => h e)
theorem below_setCells {B b : Nat} {a : World} (hb : B ≤ b) : ∀ (vs : List Value) (o : Nat) (w : World), Below B a w → Below B a (w.setCells b o vs)
  | [], _, _, h => h
  | v :: r, o, w, h => by
    rw [World.setCells]
    exact below_setCells hb r (o + 1) _ (h.setCell (p := ⟨b, o, none⟩) hb v)
theorem below_entW {B b o : Nat} {a w : World} {u : List Int} (h : Below B a w) (hb : B ≤ b) : Below B a (entW w b o u) := below_setCells hb _ _ _ h
theorem entW_other {w : World} {b o : Nat} {u : List Int} {k : Nat} (h : k ≠ b) : (entW w b o u).heap[k]? = w.heap[k]? := heap_setCells_other b _ _ _ _ h
theorem entW_cell {w : World} {b o : Nat} {u : List Int} (h : ∀ j, j < 10 → (w.cell? ⟨b, o + j, none⟩).isSome = true) : ∀ j, j < 10 → (entW w b o u).cell? ⟨b, o + j, none⟩ = some (.int .i64 (fld u j)) := fun j hj => by
  have := World.cell?_setCells_in b (recL 10 u) o w (fun i hi => h i (by rwa [recL_length] at hi)) j (by rw [recL_length]; exact hj)
  unfold entW
  rw [this]
  simp [recL]
/- A box that was laid empty. -/
def Box0 (w : World) (b : Nat) : Prop := w.heap[b]? = some (.cells zeroC 86)
theorem Box0.there {w : World} {b : Nat} (h : Box0 w b) : ∀ j, j < 10 → (w.cell? ⟨b, 0 + j, none⟩).isSome = true ∧ w.frozen? ⟨b, 0 + j, none⟩ = false := fun j hj => by
  refine ⟨?_, frozen_of_row w b (0 + j) _ _ h⟩
  rw [cell_of_row w b (0 + j) _ _ _ h, Nat.zero_add]
  match j, hj with
  | 0, _ => rfl
  | 1, _ => rfl
  | 2, _ => rfl
  | 3, _ => rfl
  | 4, _ => rfl
  | 5, _ => rfl
  | 6, _ => rfl
  | 7, _ => rfl
  | 8, _ => rfl
  | 9, _ => rfl
theorem Box0.store {w : World} {b : Nat} (h : Box0 w b) (u : List Int) : (Instr.storeAt 86 (.pointer (some ⟨b, 0, none⟩)) (entV u)).run Try.prog w = .ok () (entW w b 0 u) := store_ent u h.there
theorem Box0.cells {w : World} {b : Nat} (h : Box0 w b) (u : List Int) : ∀ j, j < 10 → (entW w b 0 u).cell? ⟨b, j, none⟩ = some (.int .i64 (fld u j)) := fun j hj => by
  have := entW_cell (u := u) (fun j hj => (h.there j hj).1) j hj
  rwa [Nat.zero_add] at this
theorem Box0.new (w : World) : Box0 (w.alloc (.cells zeroC 86)) w.heap.size := heap_alloc_new w _
theorem Box0.below {w w' : World} {b : Nat} (h : Box0 w b) (hb : Below w.heap.size w w') : Box0 w' b := by
  unfold Box0 at h ⊢
  rw [hb.block b (Array.getElem?_eq_some_iff.1 h).1]
  exact h
theorem Box0.drew {w : World} {b : Nat} (h : Box0 w b) : Box0 w.drew b := h
theorem entW_nest (w : World) (b : Nat) (u : List Int) : (((((((((w.setCell ⟨b, 0, none⟩ (.int .i64 (fld u 0))).setCell ⟨b, 1, none⟩ (.int .i64 (fld u 1))).setCell ⟨b, 2, none⟩ (.int .i64 (fld u 2))).setCell ⟨b, 3, none⟩ (.int .i64 (fld u 3))).setCell ⟨b, 4, none⟩ (.int .i64 (fld u 4))).setCell ⟨b, 5, none⟩ (.int .i64 (fld u 5))).setCell ⟨b, 6, none⟩ (.int .i64 (fld u 6))).setCell ⟨b, 7, none⟩ (.int .i64 (fld u 7))).setCell ⟨b, 8, none⟩ (.int .i64 (fld u 8))).setCell ⟨b, 9, none⟩ (.int .i64 (fld u 9)) = entW w b 0 u := rfl
theorem Box0.zero {w : World} {b : Nat} (h : Box0 w b) : ∀ j, j < 10 → w.cell? ⟨b, j, none⟩ = some (.int .i64 0) := fun j hj => by
  rw [cell_of_row w b j _ _ _ h]
  match j, hj with
  | 0, _ => rfl
  | 1, _ => rfl
  | 2, _ => rfl
  | 3, _ => rfl
  | 4, _ => rfl
  | 5, _ => rfl
  | 6, _ => rfl
  | 7, _ => rfl
  | 8, _ => rfl
  | 9, _ => rfl
theorem Box0.free {w : World} {b : Nat} (h : Box0 w b) (j : Nat) : w.frozen? ⟨b, j, none⟩ = false := frozen_of_row w b j _ _ h
theorem box_cells {w : World} {b : Nat} {u : List Int} (h : w.heap[b]? = some (.cells (entC u) 86)) : ∀ j, j < 10 → w.cell? ⟨b, j, none⟩ = some (.int .i64 (fld u j)) := fun j hj => by
  rw [cell_of_row w b j _ _ _ h]
  match j, hj with
  | 0, _ => rfl
  | 1, _ => rfl
  | 2, _ => rfl
  | 3, _ => rfl
  | 4, _ => rfl
  | 5, _ => rfl
  | 6, _ => rfl
  | 7, _ => rfl
  | 8, _ => rfl
  | 9, _ => rfl
/- A record of a row, in every world that has kept what was there. -/
theorem Recs.held {W : World} {g : Nat} {es : List (List Int)} (h : Recs W (some ⟨g, 0, none⟩) 10 es) {k : Nat} (hk : k < es.length) {t : List Int} (ht : rec es k = t) :
    ∀ j, j < 10 → ∀ w', Below W.heap.size W w' → w'.cell? ⟨g, k * 10 + j, none⟩ = some (.int .i64 (fld t j)) := fun j hj w' hb => by
  obtain ⟨b', o', hbo, hc⟩ := (h.below hb).at hk
  cases hbo
  have := hc j hj
  rw [Nat.zero_add] at this
  rw [← ht]
  exact this
end Go.Proofs.Ytibckacgojnikaa

/- A tick under way: where one heads. -/
namespace Go.Proofs.Ytibckacgojnikaa
open Go.RowKit Go.Maps

/- All below m, and block b, are as they were. -/
def Kept (m b : Nat) (W w' : World) : Prop := Below m W w' ∧ w'.heap[b]? = W.heap[b]?
theorem Kept.start (m b : Nat) (W : World) : Kept m b W W.drew := ⟨(Below.refl _ _).drew, rfl⟩
theorem Kept.call {m b : Nat} {W w' w2 : World} (h : Kept m b W w') (hm : m ≤ W.heap.size) (hb : b < W.heap.size) (h2 : Below w'.heap.size w' w2) : Kept m b W w2 :=
  ⟨h.1.trans (h2.mono (Nat.le_trans hm h.1.size)), (h2.block b (Nat.lt_of_lt_of_le hb h.1.size)).trans h.2⟩
theorem Kept.set {m b : Nat} {W w' : World} (h : Kept m b W w') (hb : b ≠ m) (j : Nat) (v : Value) : Kept m b W (w'.setCell ⟨m, j, none⟩ v) :=
  ⟨h.1.setCell (p := ⟨m, j, none⟩) (Nat.le_refl _) v, (heap_setCell_other w' ⟨m, j, none⟩ b v (fun e => hb e)).trans h.2⟩
theorem Kept.cell {m b : Nat} {W w' : World} (h : Kept m b W w') {k : Nat} (hk : k < m ∨ k = b) (j : Nat) : w'.cell? ⟨k, j, none⟩ = W.cell? ⟨k, j, none⟩ := by
  rcases hk with hk | rfl
  · exact h.1.cell (p := ⟨k, j, none⟩) hk
  · exact World.cell?_of_block (w := W) (a := ⟨k, j, none⟩) h.2
set_option maxRecDepth 100000 in
set_option maxHeartbeats 8000000 in
theorem heading_calls (base p : Nat) (s : St) (was : Int → Int) (u : List Int) (w : World) (hn : s.es.length ≤ 100) (hu : OnU u) (ha : AimU s.es u) (h : GmE base w p s was) :
    Calls Try.prog 162 #[.pointer (some ⟨p, 0, none⟩), entV u] w fun e w' => e = .returned (.tuple #[.agg #[.int .i64 (headX s.es u), .int .i64 (headY s.es u)], .bool (headB s.es u)]) ∧ Below w.heap.size w w' := by
  obtain ⟨ev, fv, bv, B, hGm⟩ := h
  obtain ⟨ea, c, rfl, hcap, hrecs, hg0'⟩ := hGm.er.open
  have hlt := hGm.lt
  obtain ⟨W, hW⟩ : ∃ W, (w.alloc (.cells (entC u) 86)).alloc (.cells #[.int .i64 0, .int .i64 0] 179) = W := ⟨_, rfl⟩
  have hbW : Below w.heap.size w W := by rw [← hW]; exact ((Below.refl _ w).alloc (Nat.le_refl _) _).alloc (by simp [go_sem]) _
  have hsW : W.heap.size = w.heap.size + 2 := by rw [← hW]; simp [go_sem]
  have hh0 : W.heap[w.heap.size]? = some (.cells (entC u) 86) := by
    rw [← hW, heap_alloc_old _ _ (by simp [go_sem])]
    exact heap_alloc_new w _
  have hh1 : W.heap[w.heap.size + 1]? = some (.cells #[.int .i64 0, .int .i64 0] 179) := by
    have e : w.heap.size + 1 = (w.alloc (.cells (entC u) 86)).heap.size := by simp [go_sem]
    rw [← hW, e]
    exact heap_alloc_new _ _
  have c0 : ∀ j, W.cell? ⟨w.heap.size, j, none⟩ = (entC u)[j]? := fun j => cell_of_row W _ j _ _ _ hh0
  have p0 : W.cell? ⟨w.heap.size + 1, 0, none⟩ = some (.int .i64 0) := cell_of_row W _ 0 _ _ _ hh1
  have p1 : W.cell? ⟨w.heap.size + 1, 1, none⟩ = some (.int .i64 0) := cell_of_row W _ 1 _ _ _ hh1
  have pf := fun j => frozen_of_row W (w.heap.size + 1) j _ _ hh1
  have x0 : W.cell? ⟨w.heap.size, 0, none⟩ = some (.int .i64 (fld u 0)) := c0 0
  have x1 : W.cell? ⟨w.heap.size, 1, none⟩ = some (.int .i64 (fld u 1)) := c0 1
  have x2 : W.cell? ⟨w.heap.size, 2, none⟩ = some (.int .i64 (fld u 2)) := c0 2
  have x3 : W.cell? ⟨w.heap.size, 3, none⟩ = some (.int .i64 (fld u 3)) := c0 3
  have x4 : W.cell? ⟨w.heap.size, 4, none⟩ = some (.int .i64 (fld u 4)) := c0 4
  have x5 : W.cell? ⟨w.heap.size, 5, none⟩ = some (.int .i64 (fld u 5)) := c0 5
  have x6 : W.cell? ⟨w.heap.size, 6, none⟩ = some (.int .i64 (fld u 6)) := c0 6
  have x7 : W.cell? ⟨w.heap.size, 7, none⟩ = some (.int .i64 (fld u 7)) := c0 7
  have x8 : W.cell? ⟨w.heap.size, 8, none⟩ = some (.int .i64 (fld u 8)) := c0 8
  have x9 : W.cell? ⟨w.heap.size, 9, none⟩ = some (.int .i64 (fld u 9)) := c0 9
  have HBW := hid hbW
  have HSW := hid hsW
  have H0 := hid hh0
  have H1 := hid hh1
  have HU := hid hu
  have HA := hid ha
  have HG := hid (hGm.below hbW)
  have HR := hid (hrecs.below hbW)
  have HE0 := hid hg0'
  obtain ⟨d0, d1, d2, d3, d4, d5, d6, d7⟩ := (hGm.below hbW).eight
  clear hbW hsW hh0 hh1 c0 hu ha hGm hrecs hg0' d0 d1 d2 d3 d4 d6 d7
  by_cases h1 : fld u 6 = 1
  · have HX : Hid (headX s.es u = fld u 7) := by show _ = _; unfold headX; rw [if_pos h1]
    have HY : Hid (headY s.es u = fld u 8) := by show _ = _; unfold headY; rw [if_pos h1]
    have HZ : Hid (headB s.es u = true) := by show _ = _; unfold headB; rw [if_pos h1]
    have b1 : (fld u 6 == 1) = true := by simpa using h1
    rw [HX.out, HY.out, HZ.out]
    clear h1
    go_enter Try.func162, Try.ntmps162
    go_wp2
    exact bodyPost_ret (v := .tuple #[.agg #[.int .i64 (fld u 7), .int .i64 (fld u 8)], .bool true]) (by simp [results, Try.results162, go_sem, p0, p1]) rfl ⟨rfl, (HBW.out.setCell (p := ⟨w.heap.size + 1, 0, none⟩) (Nat.le_succ _) _).setCell (p := ⟨w.heap.size + 1, 1, none⟩) (Nat.le_succ _) _⟩
  have b1 : (fld u 6 == 1) = false := by simpa using h1
  by_cases h23 : fld u 6 = 2 ∨ fld u 6 = 3
  case neg =>
    have HX : Hid (headX s.es u = 0) := by show _ = _; unfold headX; rw [if_neg h1, if_neg h23]
    have HY : Hid (headY s.es u = 0) := by show _ = _; unfold headY; rw [if_neg h1, if_neg h23]
    have HZ : Hid (headB s.es u = false) := by show _ = _; unfold headB; rw [if_neg h1, if_neg h23]
    have b2 : (fld u 6 == 2) = false := by simpa using fun e => h23 (Or.inl e)
    have b3 : (fld u 6 == 3) = false := by simpa using fun e => h23 (Or.inr e)
    rw [HX.out, HY.out, HZ.out]
    clear h1 h23
    go_enter Try.func162, Try.ntmps162
    go_wp2
    exact bodyPost_ret (v := .tuple #[.agg #[.int .i64 0, .int .i64 0], .bool false]) (by simp [results, Try.results162, go_sem, p0, p1]) rfl ⟨rfl, (HBW.out.setCell (p := ⟨w.heap.size + 1, 0, none⟩) (Nat.le_succ _) _).setCell (p := ⟨w.heap.size + 1, 1, none⟩) (Nat.le_succ _) _⟩
  obtain ⟨hi, hot⟩ := HA.out h23
  obtain ⟨k, hk⟩ : ∃ k : Nat, idxZ (isId (fld u 9)) s.es = k := ⟨(idxZ (isId (fld u 9)) s.es).toNat, by omega⟩
  have hkl : k < s.es.length := by have := (idxZ_bd (isId (fld u 9)) s.es).2; omega
  have htg : tgtE s.es u = rec s.es k := by unfold tgtE; rw [hk]; rfl
  have HX : Hid (headX s.es u = fld (tgtE s.es u) 3) := by show _ = _; unfold headX; rw [if_neg h1, if_pos h23]
  have HY : Hid (headY s.es u = fld (tgtE s.es u) 4) := by show _ = _; unfold headY; rw [if_neg h1, if_pos h23]
  have HZ : Hid (headB s.es u = !nearE u (tgtE s.es u)) := by show _ = _; unfold headB; rw [if_neg h1, if_pos h23]
  rw [HX.out, HY.out, HZ.out]
  obtain ⟨t, ht⟩ : ∃ t, tgtE s.es u = t := ⟨_, rfl⟩
  rw [ht] at hot ⊢
  have HOT := hid hot
  have HT : Hid (rec s.es k = t) := htg.symm.trans ht
  have HI : Hid (∀ W', Recs W' ea 10 s.es → Calls Try.prog 114 #[.slice ea s.es.length c, .int .i64 (fld u 9)] W' fun e w' => e = .returned (.int .i64 k) ∧ Below W'.heap.size W' w') := fun W' hW' => by
    have h := index_calls (fld u 9) s.es ea c W' (by omega) hW'
    rw [hk] at h
    exact h
  have hkz : (k : Int) < (s.es.length : Int) := by omega
  obtain ⟨g, rfl, hbg, hgl⟩ := HE0.out (by omega)
  have b23 : ((fld u 6 == 2) = true) ∨ ((fld u 6 == 2) = false ∧ (fld u 6 == 3) = true) := by
    rcases h23 with h | h
    · exact Or.inl (by simpa using h)
    · exact Or.inr ⟨by rw [h]; rfl, by simpa using h⟩
  clear hi hot htg ht hk h23 h1 HX HY HZ HA
  clear x0 x1 x2 x3 x4 x5 x7 x8
  have hwW : w.heap.size < W.heap.size := by rw [HSW.out]; omega
  have hpW : p < W.heap.size := by rw [HSW.out]; omega
  have hgW : g < W.heap.size := by rw [HSW.out]; omega
  have S5 : ∀ w', Below W.heap.size W w' → w'.cell? ⟨p, 5, none⟩ = some (.slice (some ⟨g, 0, none⟩) s.es.length c) := fun w' h => (h.cell (p := ⟨p, 5, none⟩) hpW).trans d5
  have S9 : ∀ w', Below W.heap.size W w' → w'.cell? ⟨w.heap.size, 9, none⟩ = some (.int .i64 (fld u 9)) := fun w' h => (h.cell (p := ⟨w.heap.size, 9, none⟩) hwW).trans x9
  have SLs := HR.out.held hkl HT.out
  have SL0 : ∀ w', Below W.heap.size W w' → w'.cell? ⟨g, k * 10, none⟩ = some (.int .i64 (fld t 0)) := SLs 0 (by omega)
  have SL1 := SLs 1 (by omega)
  have SL2 := SLs 2 (by omega)
  have SL3 := SLs 3 (by omega)
  have SL4 := SLs 4 (by omega)
  have SL5 := SLs 5 (by omega)
  have SL6 := SLs 6 (by omega)
  have SL7 := SLs 7 (by omega)
  have SL8 := SLs 8 (by omega)
  have SL9 := SLs 9 (by omega)
  clear SLs
  rcases b23 with b2 | ⟨b2, b3⟩
  all_goals
    go_enter Try.func162, Try.ntmps162
    go_wp2_with fail
    go_cut [6] (fun r wx => ∃ b, r = .pointer (some ⟨b, 0, none⟩) ∧ Hid ((∀ j, j < 10 → wx.cell? ⟨b, j, none⟩ = some (.int .i64 (fld t j))) ∧ W.heap.size ≤ b ∧ Below W.heap.size W wx))
    case first =>
      clear x6 x9 d5 p0 p1 pf hW
      go_region_held3 (fun w' => Below W.heap.size W w') (first | (rw [entW_nest]; exact below_entW (by assumption) (Nat.le_refl _)) | with_reducible exact (Below.refl _ _).drew | with_reducible exact HB2.out | exact Below.alloc (by assumption) (Below.size (by assumption)) _)
        (first
          | (go_at_call 114; refine (HI.out _ (HR.out.below (by assumption))).mono ?_; rintro e w2 ⟨rfl, hb2⟩; have hq : Box0 w2 W.heap.size := Box0.below (Box0.new W.drew) hb2; have HB2 : Hid (Below W.heap.size W w2) := Below.trans (by assumption) (hb2.mono (Below.size (by assumption))); have HQ := hid hq; have q0 := hq.zero 0 (by omega); have q1 := hq.zero 1 (by omega); have q2 := hq.zero 2 (by omega); have q3 := hq.zero 3 (by omega); have q4 := hq.zero 4 (by omega); have q5 := hq.zero 5 (by omega); have q6 := hq.zero 6 (by omega); have q7 := hq.zero 7 (by omega); have q8 := hq.zero 8 (by omega); have q9 := hq.zero 9 (by omega); have qf := hq.free; clear hb2 hq)
          | (go_at_call 114; refine (HI.out _ (HR.out.below (by assumption))).mono ?_; rintro e w2 ⟨rfl, hb2⟩; have HB2 : Hid (Below W.heap.size W w2) := Below.trans (by assumption) (hb2.mono (Below.size (by assumption))); clear hb2))
      all_goals
        go_wp2
        go_meet
        first
          | exact ⟨_, rfl, fun j hj => (Box0.cells HQ.out t) j hj, Nat.le_refl _, below_entW HB2.out (Nat.le_refl _)⟩
          | exact ⟨_, rfl, box_cells (heap_alloc_new _ _), HB2.out.size, HB2.out.alloc HB2.out.size _⟩
    case rest =>
      obtain ⟨b, rfl, HM⟩ := hcut
      clear x6 x9 d5 p0 p1 pf hW S5 S9 SL0 SL1 SL2 SL3 SL4 SL5 SL6 SL7 SL8 SL9 HI
      have hbW : w.heap.size + 2 ≤ b := by have := HM.out.2.1; rw [HSW.out] at this; exact this
      have hsc : w.heap.size + 2 ≤ wc.heap.size := by have := HM.out.2.2.size; rw [HSW.out] at this; exact this
      have hbc : b < wc.heap.size := World.block_lt_of_cell? wc _ (HM.out.1 0 (by omega))
      have c0 : ∀ j, wc.cell? ⟨w.heap.size, j, none⟩ = (entC u)[j]? := fun j => cell_of_row wc _ j _ _ _ ((HM.out.2.2.block _ (by rw [HSW.out]; omega)).trans H0.out)
      have q0 := (HM.out.2.2.block (w.heap.size + 1) (by rw [HSW.out]; omega)).trans H1.out
      have Q0 := hid q0
      have KX : ∀ j w', Kept (w.heap.size + 1) b wc w' → w'.cell? ⟨w.heap.size, j, none⟩ = (entC u)[j]? := fun j w' h => (h.cell (Or.inl (Nat.lt_succ_self _)) j).trans (c0 j)
      have KZ : ∀ j, j < 10 → ∀ w', Kept (w.heap.size + 1) b wc w' → w'.cell? ⟨b, j, none⟩ = some (.int .i64 (fld t j)) := fun j hj w' h => (h.cell (Or.inr rfl) j).trans (HM.out.1 j hj)
      have x0 : ∀ w', Kept (w.heap.size + 1) b wc w' → w'.cell? ⟨w.heap.size, 0, none⟩ = some (.int .i64 (fld u 0)) := KX 0
      have x1 : ∀ w', Kept (w.heap.size + 1) b wc w' → w'.cell? ⟨w.heap.size, 1, none⟩ = some (.int .i64 (fld u 1)) := KX 1
      have x2 : ∀ w', Kept (w.heap.size + 1) b wc w' → w'.cell? ⟨w.heap.size, 2, none⟩ = some (.int .i64 (fld u 2)) := KX 2
      have x3 : ∀ w', Kept (w.heap.size + 1) b wc w' → w'.cell? ⟨w.heap.size, 3, none⟩ = some (.int .i64 (fld u 3)) := KX 3
      have x4 : ∀ w', Kept (w.heap.size + 1) b wc w' → w'.cell? ⟨w.heap.size, 4, none⟩ = some (.int .i64 (fld u 4)) := KX 4
      have x5 : ∀ w', Kept (w.heap.size + 1) b wc w' → w'.cell? ⟨w.heap.size, 5, none⟩ = some (.int .i64 (fld u 5)) := KX 5
      have x6 : ∀ w', Kept (w.heap.size + 1) b wc w' → w'.cell? ⟨w.heap.size, 6, none⟩ = some (.int .i64 (fld u 6)) := KX 6
      have x7 : ∀ w', Kept (w.heap.size + 1) b wc w' → w'.cell? ⟨w.heap.size, 7, none⟩ = some (.int .i64 (fld u 7)) := KX 7
      have x8 : ∀ w', Kept (w.heap.size + 1) b wc w' → w'.cell? ⟨w.heap.size, 8, none⟩ = some (.int .i64 (fld u 8)) := KX 8
      have x9 : ∀ w', Kept (w.heap.size + 1) b wc w' → w'.cell? ⟨w.heap.size, 9, none⟩ = some (.int .i64 (fld u 9)) := KX 9
      have z0 := KZ 0 (by omega)
      have z1 := KZ 1 (by omega)
      have z2 := KZ 2 (by omega)
      have z3 := KZ 3 (by omega)
      have z4 := KZ 4 (by omega)
      have z5 := KZ 5 (by omega)
      have z6 := KZ 6 (by omega)
      have z7 := KZ 7 (by omega)
      have z8 := KZ 8 (by omega)
      have z9 := KZ 9 (by omega)
      have HBc : Hid (Below w.heap.size w wc) := HBW.out.trans (HM.out.2.2.mono (by rw [HSW.out]; omega))
      have hne : b ≠ w.heap.size + 1 := by omega
      clear c0 q0 KX KZ HM
      go_wp2_with fail
      go_region_held3 (fun w' => Kept (w.heap.size + 1) b wc w') (first | with_reducible exact HK3.out | exact Kept.start _ _ _ | (refine Kept.set (Kept.set (by assumption) hne _ _) hne _ _))
        (first
          | (go_at_call 120; refine (near_calls u t _ HU.out HOT.out).mono ?_; rintro e w3 ⟨rfl, hb3⟩; have HK3 : Hid (Kept (w.heap.size + 1) b wc w3) := Kept.call (by assumption) (by omega) hbc hb3; have hq3 := (hb3.block (w.heap.size + 1) (by simp [go_sem]; omega)).trans Q0.out; have q0 := cell_of_row w3 _ 0 _ _ _ hq3; have q1 := cell_of_row w3 _ 1 _ _ _ hq3; have qf0 := frozen_of_row w3 (w.heap.size + 1) 0 _ _ hq3; have qf1 := frozen_of_row w3 (w.heap.size + 1) 1 _ _ hq3; clear hb3 hq3))
      all_goals
        clear x0 x1 x2 x3 x4 x5 x6 x7 x8 x9 z0 z1 z2 z3 z4 z5 z6 z7 z8 z9
        go_wp2
        exact bodyPost_ret (v := .tuple #[.agg #[.int .i64 (fld t 3), .int .i64 (fld t 4)], .bool !nearE u t]) (by simp [results, Try.results162, go_sem, q0, q1]) rfl ⟨rfl, HBc.out.trans (((HK3.out.1.mono (Nat.le_succ _)).setCell (p := ⟨w.heap.size + 1, 0, none⟩) (Nat.le_succ _) _).setCell (p := ⟨w.heap.size + 1, 1, none⟩) (Nat.le_succ _) _)⟩
end Go.Proofs.Ytibckacgojnikaa
