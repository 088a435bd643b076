/- A tick under way: a state in memory of its own. -/
import Derived.Test.YtakmjfchhchngaaGb
namespace Go.Proofs.Ytakmjfchhchngaa
open Go.RowKit Go.Maps

theorem six_cells {w : World} {b : Nat} {x0 x1 x2 x3 x4 x5 : Value} {t : TypeId} (h : w.heap[b]? = some (.cells #[x0, x1, x2, x3, x4, x5] t)) :
    w.cell? ⟨b, 0, none⟩ = some x0 ∧ w.cell? ⟨b, 1, none⟩ = some x1 ∧ w.cell? ⟨b, 2, none⟩ = some x2 ∧ w.cell? ⟨b, 3, none⟩ = some x3 ∧ w.cell? ⟨b, 4, none⟩ = some x4 ∧ w.cell? ⟨b, 5, none⟩ = some x5 ∧ (∀ j, w.frozen? ⟨b, j, none⟩ = false) :=
  ⟨cell_of_row w b 0 _ _ _ h, cell_of_row w b 1 _ _ _ h, cell_of_row w b 2 _ _ _ h, cell_of_row w b 3 _ _ _ h, cell_of_row w b 4 _ _ _ h, cell_of_row w b 5 _ _ _ h, fun j => frozen_of_row w b j _ _ h⟩

theorem grown_below {w w' : World} (h : w.grownBy w' none) : Below w.heap.size w w' := ⟨h.os, h.tape, h.output, h.size, fun k hk => h.block k hk (by simp)⟩

theorem row_set {w : World} {base : Nat} {e : TypeId} {size : Nat} {v : Value} {n : Nat} {xs : List Value} (h : w.ownsRow base e size v n xs) {b : Nat} (hne : v.ownBlock ≠ some b) (j : Nat) (u : Value) : (w.setCell ⟨b, j, none⟩ u).ownsRow base e size v n xs :=
  row_other h fun g hg => heap_setCell_other w ⟨b, j, none⟩ g u (fun e => hne (by rw [hg, e]))

set_option maxRecDepth 100000 in
set_option maxHeartbeats 4000000 in
theorem fresh_calls (t g0 g1 nx : Int) (free : List Int) (fa ea : Option Addr) (fc ec : Nat) (es : List (List Int)) (w : World) (hfn : fa = none → fc = 0) (hen : ea = none → ec = 0) (hlf : free.length ≤ 1000) (hle : es.length ≤ 1000)
    (hrow : Recs w ea 10 es) (hfr : Nums w fa free) :
    Calls Try.prog 87 #[elderV t g0 g1 nx (.slice fa free.length fc) (.slice ea es.length ec)] w fun e w' => ∃ fv ev, e = .returned (elderV t g0 g1 nx fv ev) ∧ NRow w.heap.size w' fv free ∧ Row w.heap.size w' ev es ∧ Below w.heap.size w w' := by
  obtain ⟨A, hA⟩ : ∃ A : Array Value, A = #[.int .i64 t, .int .i64 g0, .int .i64 g1, .int .i64 nx, .slice fa free.length fc, .slice ea es.length ec] := ⟨_, rfl⟩
  obtain ⟨Z, hZ⟩ : ∃ Z : Array Value, Z = #[.int .i64 0, .int .i64 0, .int .i64 0, .int .i64 0, .slice none 0 0, .slice none 0 0] := ⟨_, rfl⟩
  obtain ⟨W0, hW0⟩ : ∃ W0, W0 = (w.alloc (.cells A 60)).alloc (.cells Z 60) := ⟨_, rfl⟩
  have hs0 : W0.heap.size = w.heap.size + 2 := by rw [hW0]; simp [go_sem]
  have hb0 : Below w.heap.size w W0 := by rw [hW0]; exact ((Below.refl _ w).alloc (Nat.le_refl _) _).alloc (by simp [go_sem]) _
  have hh1 : W0.heap[w.heap.size]? = some (.cells A 60) := by
    rw [hW0, heap_alloc_old _ _ (by simp [go_sem])]
    exact heap_alloc_new w _
  have hh2 : W0.heap[w.heap.size + 1]? = some (.cells Z 60) := by
    have e : w.heap.size + 1 = (w.alloc (.cells A 60)).heap.size := by simp [go_sem]
    rw [hW0, e]
    exact heap_alloc_new _ _
  have HF := hid (hfr.below hb0)
  have HR := hid hrow
  have HS0 := hid hs0
  have HB0 := hid hb0
  have HH1 := hid hh1
  have HH2 := hid hh2
  have HW0 := hid hW0
  have HA := hid hA
  have HZ := hid hZ
  clear hrow hfr hs0 hb0 hh1 hh2 hW0 hA hZ
  go_enter Try.func87, Try.ntmps87
  go_wp2_with (first
    | (at_builtin; rw [← HA.out, ← HZ.out, ← HW0.out]; refine wp_nums _ rfl _ _ rfl w.heap.size _ [] rfl (World.ownsRow_nil _ _ _ _) fa fc free rfl HF.out hfn (by simp; omega) (by rw [HS0.out]; omega) ?_
       intro v1 w1 hr1 hg1 hl1
       rw [List.nil_append] at hr1
       obtain ⟨va, vc, rfl, _, _, _⟩ := hr1.open
       have HR1 := hid hr1
       have HK1 := hid (grown_below hg1)
       have HL1 := hid hl1
       have e1 := (HK1.out.block w.heap.size (by rw [HS0.out]; omega)).trans HH1.out
       rw [HA.out] at e1
       have E1 := hid e1
       obtain ⟨a0, a1, a2, a3, a4, a5, af⟩ := six_cells e1
       have af4 := af 4
       clear hr1 hg1 hl1 e1 af a0 a1 a2 a3)
    | (at_builtin; refine wp_rows _ rfl _ _ rfl w.heap.size _ [] rfl (World.ownsRow_nil _ _ _ _) ea ec es rfl (HR.out.below ((HB0.out.trans (HK1.out.mono (by rw [HS0.out]; omega))).setCell (p := ⟨w.heap.size, 4, none⟩) (Nat.le_refl _) _)) hen (by simp; omega) (by have h := HK1.out.size; rw [HS0.out] at h; simp [go_sem]; omega) ?_
       intro v2 w2 hr2 hg2 hl2
       rw [List.nil_append] at hr2
       obtain ⟨ua, uc, rfl, _, _, _⟩ := hr2.open
       have HR2 := hid hr2
       have HK2 := hid (grown_below hg2)
       have HL2 := hid hl2
       have hsz : w.heap.size + 2 ≤ w1.heap.size := by have h := HK1.out.size; rw [HS0.out] at h; exact h
       have e2 := (HK2.out.block w.heap.size (by simp [go_sem]; omega)).trans (heap_setCell_same w1 w.heap.size 4 _ _ (.slice va free.length vc) E1.out)
       have e3 := (HK2.out.block (w.heap.size + 1) (by simp [go_sem]; omega)).trans ((heap_setCell_other w1 ⟨w.heap.size, 4, none⟩ (w.heap.size + 1) (.slice va free.length vc) (by simp)).trans ((HK1.out.block (w.heap.size + 1) (by rw [HS0.out]; omega)).trans HH2.out))
       rw [HZ.out] at e3
       have e2' : w2.heap[w.heap.size]? = some (.cells #[.int .i64 t, .int .i64 g0, .int .i64 g1, .int .i64 nx, .slice va free.length vc, .slice ea es.length ec] 60) := e2
       obtain ⟨b0, b1, b2, b3, b4, b5, bf⟩ := six_cells e2'
       obtain ⟨d0, d1, d2, d3, d4, d5, df⟩ := six_cells e3
       have E2 := hid e2'
       have E3 := hid e3
       clear hr2 hg2 hl2 e2 e2' e3 a4 a5 af4))
  have n1a := row_ne HR1.out E1.out (by decide)
  have n1b := row_ne HR1.out ((HK1.out.block (w.heap.size + 1) (by rw [HS0.out]; omega)).trans HH2.out) (by decide)
  have n2a := row_ne HR2.out E2.out (by decide)
  have n2b := row_ne HR2.out E3.out (by decide)
  have r1 := row_below (row_set HR1.out n1a 4 (.slice va free.length vc)) HK2.out
  have hbw : Below w.heap.size w w2 := (((HB0.out.trans (HK1.out.mono (by rw [HS0.out]; omega))).setCell (p := ⟨w.heap.size, 4, none⟩) (Nat.le_refl _) (.slice va free.length vc))).trans (HK2.out.mono (by simp [go_sem]; omega))
  refine bodyPost_ret (v := elderV t g0 g1 nx (.slice va free.length vc) (.slice ua es.length uc)) (by simp [results, Try.results87, go_sem, d0, d1, d2, d3, d4, d5]) rfl ⟨_, _, rfl, ?_, ?_, ?_⟩
  · exact row_set (row_set (row_set (row_set (row_set (row_set (row_set r1 n1a _ _) n1b _ _) n1b _ _) n1b _ _) n1b _ _) n1b _ _) n1b _ _
  · exact row_set (row_set (row_set (row_set (row_set (row_set (row_set HR2.out n2a _ _) n2b _ _) n2b _ _) n2b _ _) n2b _ _) n2b _ _) n2b _ _
  · exact ((((((hbw.setCell (p := ⟨w.heap.size, 5, none⟩) (Nat.le_refl _) _).setCell (p := ⟨w.heap.size + 1, 0, none⟩) (Nat.le_succ _) _).setCell (p := ⟨w.heap.size + 1, 1, none⟩) (Nat.le_succ _) _).setCell (p := ⟨w.heap.size + 1, 2, none⟩) (Nat.le_succ _) _).setCell (p := ⟨w.heap.size + 1, 3, none⟩) (Nat.le_succ _) _).setCell (p := ⟨w.heap.size + 1, 4, none⟩) (Nat.le_succ _) _).setCell (p := ⟨w.heap.size + 1, 5, none⟩) (Nat.le_succ _) _
end Go.Proofs.Ytakmjfchhchngaa
