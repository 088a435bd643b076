/- Package newer of the program: is there room for one more? -/
import Derived.Test.YtmnddahkbmlibaaTnNwI
import Derived.Test.YtmnddahkbmlibaaTnNwC
namespace Go.Proofs.Ytmnddahkbmlibaa
open Go.RowKit Go.Maps
set_option maxHeartbeats 2000000 in
theorem there_calls (x y : Int) (bx b2 : Nat) (w : World) (hx : bx < w.heap.size) (hy : b2 < w.heap.size) (cx : w.cell? ⟨bx, 0, none⟩ = some (.int .i64 x)) (cy : w.cell? ⟨b2, 0, none⟩ = some (.int .i64 y)) (W : World) (u : List Int) (hb : Below w.heap.size w W) :
    Calls Try.prog 198 (#[unitV u] ++ #[.pointer (some ⟨bx, 0, none⟩), .pointer (some ⟨b2, 0, none⟩)]) W fun e w' => e = .returned (.bool (isAt x y u)) ∧ Below w.heap.size w w' := by
  have cxW : W.cell? ⟨bx, 0, none⟩ = some (.int .i64 x) := (hb.cell (p := ⟨bx, 0, none⟩) hx).trans cx
  have cyW : W.cell? ⟨b2, 0, none⟩ = some (.int .i64 y) := (hb.cell (p := ⟨b2, 0, none⟩) hy).trans cy
  have hxW : bx < W.heap.size := Nat.lt_of_lt_of_le hx hb.size
  have hyW : b2 < W.heap.size := Nat.lt_of_lt_of_le hy hb.size
  have hne1 : bx ≠ W.heap.size := by omega
  have hne2 : b2 ≠ W.heap.size := by omega
  have HB := hid hb
  clear hb cx cy hx hy
  show Calls Try.prog 198 #[.agg (unitC u), .pointer (some ⟨bx, 0, none⟩), .pointer (some ⟨b2, 0, none⟩)] W fun e w' => e = .returned (.bool (fld u 3 == x && fld u 4 == y)) ∧ Below w.heap.size w w'
  cases h3 : fld u 3 == x
  · go_enter Try.func198, Try.ntmps198
    go_wp2
    go_ret
    exact ⟨rfl, HB.out.alloc HB.out.size _⟩
  · cases h4 : fld u 4 == y
    · go_enter Try.func198, Try.ntmps198
      go_wp2
      go_ret
      exact ⟨rfl, HB.out.alloc HB.out.size _⟩
    · go_enter Try.func198, Try.ntmps198
      go_wp2
      go_ret
      exact ⟨rfl, HB.out.alloc HB.out.size _⟩
set_option maxHeartbeats 2000000 in
theorem containsU_calls (g : Nat) (lb : Array Value) (eg : ∀ args w, (callFunc g args).run Try.prog w = .ok (.enter g args) w) (p : List Int → Bool) (es : List (List Int)) (ea : Option Addr) (c : Nat) (w : World)
    (hn : es.length ≤ 1000) (hrow : Recs w ea 11 es)
    (hp : ∀ (W : World) (u : List Int), Below w.heap.size w W → Calls Try.prog g (#[unitV u] ++ lb) W fun e w' => e = .returned (.bool (p u)) ∧ Below w.heap.size w w') :
    Calls Try.prog 199 #[.slice ea es.length c, .func (.func g) #[] lb] w fun e w' => e = .returned (.bool (decide (0 ≤ idxZ p es))) ∧ Below w.heap.size w w' := by
  have HI := hid (indexFuncU_calls g lb eg p es ea c w hn hrow hp)
  clear hrow hp
  go_enter Try.func199, Try.ntmps199
  go_wp2_with fail
  refine HI.out.mono ?_
  rintro e w2 ⟨rfl, hb2⟩
  have HB := hid hb2
  clear hb2 HI
  by_cases hz : 0 ≤ idxZ p es
  · have HZ := hid hz
    go_wp2
    go_ret
    exact ⟨retB (by simp [HZ.out]), HB.out⟩
  · have HZ := hid hz
    go_wp2
    go_ret
    exact ⟨retB (by simp), HB.out⟩
set_option maxRecDepth 100000 in
set_option maxHeartbeats 4000000 in
theorem hasRoomN_calls (base p B : Nat) (uv : Value) (s : St) (f : Int → Option Value) (old : Int) (u : List Int) (x y : Int) (w : World) (hn : s.es.length ≤ 1000) (hu : OnU u) (h : GmN base w p uv B s f old) :
    Calls Try.prog 190 #[.pointer (some ⟨p, 0, none⟩), unitV u, .int .i64 x, .int .i64 y] w fun e w' => e = .returned (.bool (roomE s.es u x y)) ∧ Below w.heap.size w w' := by
  obtain ⟨ea, c, rfl, hcap, hrecs, hg0⟩ := h.er.open
  have hlt := h.lt
  obtain ⟨W, hW⟩ : ∃ W, ((w.alloc (.cells (unitC u) 110)).alloc (.cells #[.int .i64 x] 3)).alloc (.cells #[.int .i64 y] 3) = W := ⟨_, rfl⟩
  have hs1 : (w.alloc (.cells (unitC u) 110)).heap.size = w.heap.size + 1 := by simp [go_sem]
  have hs2 : ((w.alloc (.cells (unitC u) 110)).alloc (.cells #[.int .i64 x] 3)).heap.size = w.heap.size + 2 := by simp [go_sem]
  have hsW : W.heap.size = w.heap.size + 3 := by rw [← hW]; simp [go_sem]
  have hbW : Below w.heap.size w W := by rw [← hW]; exact (((Below.refl _ w).alloc (Nat.le_refl _) _).alloc (by omega) _).alloc (by omega) _
  have hh0 : W.heap[w.heap.size]? = some (.cells (unitC u) 110) := by
    rw [← hW, heap_alloc_old _ _ (by omega), heap_alloc_old _ _ (by omega)]
    exact heap_alloc_new w _
  have hh1 : W.heap[w.heap.size + 1]? = some (.cells #[.int .i64 x] 3) := by
    rw [← hW, heap_alloc_old _ _ (by omega), ← hs1]
    exact heap_alloc_new _ _
  have hh2 : W.heap[w.heap.size + 2]? = some (.cells #[.int .i64 y] 3) := by
    rw [← hW, ← hs2]
    exact heap_alloc_new _ _
  have cx : W.cell? ⟨w.heap.size + 1, 0, none⟩ = some (.int .i64 x) := cell_of_row W _ 0 _ _ _ hh1
  have cy : W.cell? ⟨w.heap.size + 2, 0, none⟩ = some (.int .i64 y) := cell_of_row W _ 0 _ _ _ hh2
  have x3 : W.cell? ⟨w.heap.size, 3, none⟩ = some (.int .i64 (fld u 3)) := cell_of_row W _ 3 _ _ _ hh0
  have x4 : W.cell? ⟨w.heap.size, 4, none⟩ = some (.int .i64 (fld u 4)) := cell_of_row W _ 4 _ _ _ hh0
  have d4 := (h.below hbW).cell 4
  have eg : ∀ args w, (callFunc 198 args).run Try.prog w = .ok (.enter 198 args) w := enters_of Try.func198 (by kernel_rfl) rfl
  have HS := hid (containsU_calls 198 #[.pointer (some ⟨w.heap.size + 1, 0, none⟩), .pointer (some ⟨w.heap.size + 2, 0, none⟩)] eg (isAt x y) s.es ea c W hn (hrecs.below hbW) (fun W' v hb' => there_calls x y (w.heap.size + 1) (w.heap.size + 2) W (by omega) (by omega) cx cy W' v hb'))
  have HB1 := hid hbW
  have HSW := hid hsW
  clear h hrecs hg0 hh0 hh1 hh2 hs1 hs2 eg hbW hsW
  unfold roomE
  go_enter Try.func190, Try.ntmps190
  go_wp2_with fail
  refine (on_calls _ _ _).mono ?_
  rintro e w' ⟨rfl, rfl⟩
  cases h1 : Pl.onB x y
  · go_wp2
    go_ret
    exact ⟨retB (by rw [h1]; rfl), HB1.out⟩
  have hon := Pl.onB_true h1
  go_wp2_with fail
  refine (far_calls _ _ _ _ hu hon _).mono ?_
  rintro e w' ⟨rfl, rfl⟩
  have H1 := hid h1
  clear hon h1
  by_cases hf : Pl.farZ (fld u 3) (fld u 4) x y ≤ 1
  · have HF := hid hf
    go_wp2_with fail
    refine HS.out.mono ?_
    rintro e w2 ⟨rfl, hb2⟩
    have HB2 := hid (HB1.out.trans (hb2.mono (by rw [HSW.out]; omega)))
    clear hb2 HS hf d4 x3 x4 cx cy hW
    by_cases hz : idxZ (isAt x y) s.es < 0
    · have hz' : ¬ 0 ≤ idxZ (isAt x y) s.es := by omega
      have HZ := hid hz
      go_wp2
      go_ret
      exact ⟨retB (by rw [H1.out]; simp [HF.out, HZ.out]), HB2.out⟩
    · have hz' : 0 ≤ idxZ (isAt x y) s.es := by omega
      have HZ := hid hz
      go_wp2
      go_ret
      exact ⟨retB (by rw [H1.out]; simp [HF.out, HZ.out]), HB2.out⟩
  · have HF := hid (decide_eq_false hf)
    go_wp2
    go_ret
    exact ⟨retB (by rw [H1.out, HF.out]; rfl), HB1.out⟩
end Go.Proofs.Ytmnddahkbmlibaa
