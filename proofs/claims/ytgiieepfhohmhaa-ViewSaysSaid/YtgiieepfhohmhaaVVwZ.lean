/- Package view: a state that is not right. -/
import Derived.Test.YtgiieepfhohmhaaVVwP
import Derived.Test.YtgiieepfhohmhaaVInN
namespace Go.Proofs.Ytgiieepfhohmhaa
open Go.RowKit Go.Maps
set_option maxRecDepth 100000 in
set_option maxHeartbeats 4000000 in
theorem viewElder_check (s : St) (fa ea : Option Addr) (fc ec : Nat) (w : World) (h : InE w s fa ea fc ec) (hc : checkE s.t s.g0 s.g1 s.nx s.free s.es ≠ 0) :
    Calls Try.prog 61 #[elderV s.t s.g0 s.g1 s.nx (.slice fa s.free.length fc) (.slice ea s.es.length ec)] w fun e w' => e = .returned (.tuple #[viewV 0 0 0 (.slice none 0 0), errV (checkE s.t s.g0 s.g1 s.nx s.free s.es)]) ∧ Below w.heap.size w w' := by
  obtain ⟨W, hW⟩ : ∃ W, (w.alloc (.cells (elC s.t s.g0 s.g1 s.nx (.slice fa s.free.length fc) (.slice ea s.es.length ec)) 60)).alloc (.cells (viewC 0 0 0 (.slice none 0 0)) 115) = W := ⟨_, rfl⟩
  have hbW : Below w.heap.size w W := by rw [← hW]; exact ((Below.refl _ w).alloc (Nat.le_refl _) _).alloc (by simp [go_sem]) _
  have hsW : W.heap.size = w.heap.size + 2 := by rw [← hW]; simp [go_sem]
  have hh0 : W.heap[w.heap.size]? = some (.cells (elC s.t s.g0 s.g1 s.nx (.slice fa s.free.length fc) (.slice ea s.es.length ec)) 60) := by
    rw [← hW, heap_alloc_old _ _ (by simp [go_sem])]
    exact heap_alloc_new w _
  have hh1 : W.heap[w.heap.size + 1]? = some (.cells (viewC 0 0 0 (.slice none 0 0)) 115) := by
    have e : w.heap.size + 1 = (w.alloc (.cells (elC s.t s.g0 s.g1 s.nx (.slice fa s.free.length fc) (.slice ea s.es.length ec)) 60)).heap.size := by simp [go_sem]
    rw [← hW, e]
    exact heap_alloc_new _ _
  obtain ⟨x0, x1, x2, x3, x4, x5⟩ := elder_cells hh0
  have hin := h.below hbW
  have HC := hid (check_calls s.t s.g0 s.g1 s.nx s.free fa ea fc ec s.es W h.cap hin.rows hin.nums h.wf)
  have HBW := hid hbW
  have HSW := hid hsW
  have H1 := hid hh1
  rw [errV_some hc] at HC ⊢
  generalize checkE s.t s.g0 s.g1 s.nx s.free s.es = n at HC
  clear h hin hbW hsW hh0 hh1 hc
  go_enter Try.func61, Try.ntmps61
  go_wp2_with fail
  refine HC.out.mono ?_
  rintro e w2 ⟨rfl, hb2⟩
  have hq := (hb2.block (w.heap.size + 1) (by rw [HSW.out]; omega)).trans H1.out
  obtain ⟨q0, q1, q2, q3, qf⟩ := four_cells hq
  have HB2 : Hid (Below w.heap.size w w2) := HBW.out.trans (hb2.mono (by rw [HSW.out]; omega))
  clear HC hb2 hq x0 x1 x2 x3 x4 x5 hW
  go_wp2
  refine bodyPost_ret (v := .tuple #[viewV 0 0 0 (.slice none 0 0), .iface 131 (.int .i64 n)]) (by simp [results, Try.results61, go_sem, q0, q1, q2, q3]) rfl ⟨rfl, ?_⟩
  exact (((HB2.out.setCell (p := ⟨w.heap.size + 1, 0, none⟩) (Nat.le_succ _) _).setCell (p := ⟨w.heap.size + 1, 1, none⟩) (Nat.le_succ _) _).setCell (p := ⟨w.heap.size + 1, 2, none⟩) (Nat.le_succ _) _).setCell (p := ⟨w.heap.size + 1, 3, none⟩) (Nat.le_succ _) _
set_option maxRecDepth 100000 in
set_option maxHeartbeats 4000000 in
theorem viewNewer_check (s : St) (ea : Option Addr) (ec : Nat) (w : World) (h : InW w s ea ec) (hc : ckN s ≠ 0) :
    Calls Try.prog 64 #[newerV s.t s.g0 s.g1 s.nx (.slice ea s.es.length ec)] w fun e w' => e = .returned (.tuple #[viewV 0 0 0 (.slice none 0 0), errV (ckN s)]) ∧ Below w.heap.size w w' := by
  obtain ⟨W, hW⟩ : ∃ W, (w.alloc (.cells (newerC s.t s.g0 s.g1 s.nx (.slice ea s.es.length ec)) 90)).alloc (.cells (viewC 0 0 0 (.slice none 0 0)) 115) = W := ⟨_, rfl⟩
  have hbW : Below w.heap.size w W := by rw [← hW]; exact ((Below.refl _ w).alloc (Nat.le_refl _) _).alloc (by simp [go_sem]) _
  have hsW : W.heap.size = w.heap.size + 2 := by rw [← hW]; simp [go_sem]
  have hh0 : W.heap[w.heap.size]? = some (.cells (newerC s.t s.g0 s.g1 s.nx (.slice ea s.es.length ec)) 90) := by
    rw [← hW, heap_alloc_old _ _ (by simp [go_sem])]
    exact heap_alloc_new w _
  have hh1 : W.heap[w.heap.size + 1]? = some (.cells (viewC 0 0 0 (.slice none 0 0)) 115) := by
    have e : w.heap.size + 1 = (w.alloc (.cells (newerC s.t s.g0 s.g1 s.nx (.slice ea s.es.length ec)) 90)).heap.size := by simp [go_sem]
    rw [← hW, e]
    exact heap_alloc_new _ _
  obtain ⟨x0, x1, x2, x3, x4, _⟩ := five_cells hh0
  have hin := h.below hbW
  have HC : Hid (Calls Try.prog 54 #[newerV s.t s.g0 s.g1 s.nx (.slice ea s.es.length ec)] W fun e w' => e = .returned (errV (ckN s)) ∧ Below W.heap.size W w') := checkNewer_calls s.t s.g0 s.g1 s.nx s.es ea ec W hin.rows
  have HBW := hid hbW
  have HSW := hid hsW
  have H1 := hid hh1
  rw [errV_some hc] at HC ⊢
  generalize ckN s = n at HC
  clear h hin hbW hsW hh0 hh1 hc
  go_enter Try.func64, Try.ntmps64
  go_wp2_with fail
  refine HC.out.mono ?_
  rintro e w2 ⟨rfl, hb2⟩
  have hq := (hb2.block (w.heap.size + 1) (by rw [HSW.out]; omega)).trans H1.out
  obtain ⟨q0, q1, q2, q3, qf⟩ := four_cells hq
  have HB2 : Hid (Below w.heap.size w w2) := HBW.out.trans (hb2.mono (by rw [HSW.out]; omega))
  clear HC hb2 hq x0 x1 x2 x3 x4 hW
  go_wp2
  refine bodyPost_ret (v := .tuple #[viewV 0 0 0 (.slice none 0 0), .iface 131 (.int .i64 n)]) (by simp [results, Try.results64, go_sem, q0, q1, q2, q3]) rfl ⟨rfl, ?_⟩
  exact (((HB2.out.setCell (p := ⟨w.heap.size + 1, 0, none⟩) (Nat.le_succ _) _).setCell (p := ⟨w.heap.size + 1, 1, none⟩) (Nat.le_succ _) _).setCell (p := ⟨w.heap.size + 1, 2, none⟩) (Nat.le_succ _) _).setCell (p := ⟨w.heap.size + 1, 3, none⟩) (Nat.le_succ _) _
end Go.Proofs.Ytgiieepfhohmhaa
