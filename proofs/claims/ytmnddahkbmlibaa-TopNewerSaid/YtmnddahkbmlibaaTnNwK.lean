/- Package newer of the program: a state in memory of its own; a tick begins. -/
import Derived.Test.YtmnddahkbmlibaaTnRefEA
import Derived.Test.YtmnddahkbmlibaaTnNwJ
import Derived.Test.YtmnddahkbmlibaaTnNwC
namespace Go.Proofs.Ytmnddahkbmlibaa
open Go.RowKit Go.Maps
theorem five_cells {w : World} {b : Nat} {x0 x1 x2 x3 x4 : Value} {t : TypeId} (h : w.heap[b]? = some (.cells #[x0, x1, x2, x3, x4] t)) :
    w.cell? ⟨b, 0, none⟩ = some x0 ∧ w.cell? ⟨b, 1, none⟩ = some x1 ∧ w.cell? ⟨b, 2, none⟩ = some x2 ∧ w.cell? ⟨b, 3, none⟩ = some x3 ∧ w.cell? ⟨b, 4, none⟩ = some x4 ∧ (∀ j, w.frozen? ⟨b, j, none⟩ = false) :=
  ⟨cell_of_row w b 0 _ _ _ h, cell_of_row w b 1 _ _ _ h, cell_of_row w b 2 _ _ _ h, cell_of_row w b 3 _ _ _ h, cell_of_row w b 4 _ _ _ h, fun j => frozen_of_row w b j _ _ h⟩
set_option maxRecDepth 100000 in
set_option maxHeartbeats 4000000 in
theorem freshN_calls (t g0 g1 nx : Int) (ea : Option Addr) (ec : Nat) (es : List (List Int)) (w : World) (hen : ea = none → ec = 0) (hle : es.length ≤ 1000) (hrow : Recs w ea 11 es) :
    Calls Try.prog 116 #[newerV t g0 g1 nx (.slice ea es.length ec)] w fun e w' => ∃ uv, e = .returned (newerV t g0 g1 nx uv) ∧ RowU w.heap.size w' uv es ∧ Below w.heap.size w w' := by
  obtain ⟨A, hA⟩ : ∃ A : Array Value, A = #[.int .i64 t, .int .i64 g0, .int .i64 g1, .int .i64 nx, .slice ea es.length ec] := ⟨_, rfl⟩
  obtain ⟨Z, hZ⟩ : ∃ Z : Array Value, Z = #[.int .i64 0, .int .i64 0, .int .i64 0, .int .i64 0, .slice none 0 0] := ⟨_, rfl⟩
  obtain ⟨W0, hW0⟩ : ∃ W0, W0 = (w.alloc (.cells A 90)).alloc (.cells Z 90) := ⟨_, rfl⟩
  have hs0 : W0.heap.size = w.heap.size + 2 := by rw [hW0]; simp [go_sem]
  have hb0 : Below w.heap.size w W0 := by rw [hW0]; exact ((Below.refl _ w).alloc (Nat.le_refl _) _).alloc (by simp [go_sem]) _
  have hh1 : W0.heap[w.heap.size]? = some (.cells A 90) := by
    rw [hW0, heap_alloc_old _ _ (by simp [go_sem])]
    exact heap_alloc_new w _
  have hh2 : W0.heap[w.heap.size + 1]? = some (.cells Z 90) := by
    have e : w.heap.size + 1 = (w.alloc (.cells A 90)).heap.size := by simp [go_sem]
    rw [hW0, e]
    exact heap_alloc_new _ _
  have HR := hid (hrow.below hb0)
  have HS0 := hid hs0
  have HB0 := hid hb0
  have HH1 := hid hh1
  have HH2 := hid hh2
  have HW0 := hid hW0
  have HA := hid hA
  have HZ := hid hZ
  clear hrow hs0 hb0 hh1 hh2 hW0 hA hZ
  go_enter Try.func116, Try.ntmps116
  go_wp2_with (first
    | (at_builtin; rw [← HA.out, ← HZ.out, ← HW0.out]; refine wp_rowsU _ rfl _ _ rfl w.heap.size _ [] rfl (World.ownsRow_nil _ _ _ _) ea ec es rfl HR.out hen (by simp; omega) (by rw [HS0.out]; omega) ?_
       intro v1 w1 hr1 hg1 hl1
       rw [List.nil_append] at hr1
       obtain ⟨va, vc, rfl, _, _, _⟩ := hr1.open
       have HR1 := hid hr1
       have HK1 := hid (grown_below hg1)
       have HL1 := hid hl1
       have e1 := (HK1.out.block w.heap.size (by rw [HS0.out]; omega)).trans HH1.out
       have e2 := (HK1.out.block (w.heap.size + 1) (by rw [HS0.out]; omega)).trans HH2.out
       rw [HA.out] at e1
       rw [HZ.out] at e2
       have E1 := hid e1
       have E2 := hid e2
       obtain ⟨a0, a1, a2, a3, a4, af⟩ := five_cells e1
       obtain ⟨d0, d1, d2, d3, d4, df⟩ := five_cells e2
       clear hr1 hg1 hl1 e1 e2))
  have n1a := row_ne HR1.out E1.out (by decide)
  have n1b := row_ne HR1.out E2.out (by decide)
  have hbw : Below w.heap.size w w1 := HB0.out.trans (HK1.out.mono (by rw [HS0.out]; omega))
  refine bodyPost_ret (v := newerV t g0 g1 nx (.slice va es.length vc)) (by simp [results, Try.results116, go_sem, d0, d1, d2, d3, d4]) rfl ⟨_, rfl, ?_, ?_⟩
  · exact row_set (row_set (row_set (row_set (row_set (row_set HR1.out n1a _ _) n1b _ _) n1b _ _) n1b _ _) n1b _ _) n1b _ _
  · exact (((((hbw.setCell (p := ⟨w.heap.size, 4, none⟩) (Nat.le_refl _) _).setCell (p := ⟨w.heap.size + 1, 0, none⟩) (Nat.le_succ _) _).setCell (p := ⟨w.heap.size + 1, 1, none⟩) (Nat.le_succ _) _).setCell (p := ⟨w.heap.size + 1, 2, none⟩) (Nat.le_succ _) _).setCell (p := ⟨w.heap.size + 1, 3, none⟩) (Nat.le_succ _) _).setCell (p := ⟨w.heap.size + 1, 4, none⟩) (Nat.le_succ _) _
end Go.Proofs.Ytmnddahkbmlibaa
