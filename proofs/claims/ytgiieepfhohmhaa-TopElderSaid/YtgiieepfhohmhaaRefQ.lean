/- The reference: a tick of the elder game. -/
import Derived.Test.YtgiieepfhohmhaaRefO
import Derived.Test.YtgiieepfhohmhaaRefP
import Derived.Test.YtgiieepfhohmhaaEqCA
import Derived.Test.YtgiieepfhohmhaaRefK2
namespace Go.Proofs.Ytgiieepfhohmhaa
open Go.RowKit Go.Maps

theorem st0_up {s : St} (h : s.born = []) : st0 s.t s.g0 s.g1 s.nx s.free (s.es.map unitE) = upS s := by
  cases s
  simp only at h
  subst h
  rfl
theorem idsU (es : List (List Int)) : idsE (es.map unitE) = idsE es := by
  unfold idsE
  rw [List.map_map]
  rfl
theorem Apart.below {w w' : World} {p k : Nat} (h : Apart w p k) (hp : p < w.heap.size) (hb : Below w.heap.size w w') : Apart w' p k :=
  ⟨h.1, fun j v hv => h.2 j v ((hb.cell (p := ⟨p, j, none⟩) hp).symm.trans hv)⟩
/- Who was there, kept while the game is turned. -/
def OldOk (w : World) (p : Nat) (oa : Option Addr) (old : List Int) : Prop := Nums w oa old ∧ ∀ b o, oa = some ⟨b, o, none⟩ → b < w.heap.size ∧ Apart w p b
theorem OldOk.below {w w' : World} {p : Nat} {oa : Option Addr} {old : List Int} (h : OldOk w p oa old) (hp : p < w.heap.size) (hb : Below w.heap.size w w') : OldOk w' p oa old :=
  ⟨h.1.below hb, fun b o e => ⟨Nat.lt_of_lt_of_le (h.2 b o e).1 hb.size, (h.2 b o e).2.below hp hb⟩⟩
theorem OldOk.fr {w w' : World} {p : Nat} {oa : Option Addr} {old : List Int} (h : OldOk w p oa old) (hf : Fr w w' p) : OldOk w' p oa old := by
  refine ⟨?_, fun b o e => ⟨Nat.lt_of_lt_of_le (h.2 b o e).1 hf.1, (hf.2 b (h.2 b o e).1 (h.2 b o e).2).2⟩⟩
  rcases h.1 with h1 | ⟨b, o, e, hc⟩
  · exact Or.inl h1
  · refine Or.inr ⟨b, o, e, fun i hi => ?_⟩
    have hk := (hf.2 b (h.2 b o e).1 (h.2 b o e).2).1
    rw [← hc i hi]
    unfold World.cell?
    simp only [hk]

set_option maxRecDepth 100000 in
set_option maxHeartbeats 8000000 in
theorem stepR_check (s : St) (fa ea la : Option Addr) (fc ec lc : Nat) (l : List (List Int)) (w : World) (h : InE w s fa ea fc ec) (hne : s.es.length ≤ 1000) (hnf : s.free.length ≤ 1000) (hc : checkE s.t s.g0 s.g1 s.nx s.free s.es ≠ 0) :
    Calls Try.prog 41 #[elderV s.t s.g0 s.g1 s.nx (.slice fa s.free.length fc) (.slice ea s.es.length ec), .slice la l.length lc] w fun e w' => e = .returned (.tuple #[zeroE, .slice none 0 0, .int .i64 (checkE s.t s.g0 s.g1 s.nx s.free s.es)]) ∧ Below w.heap.size w w' := by
  obtain ⟨W, hW⟩ : ∃ W, (w.alloc (.cells #[.int .i64 s.t, .int .i64 s.g0, .int .i64 s.g1, .int .i64 s.nx, .slice fa s.free.length fc, .slice ea s.es.length ec] 60)).alloc (.cells #[.int .i64 0, .int .i64 0, .int .i64 0, .int .i64 0, .slice none 0 0, .slice none 0 0] 60) = W := ⟨_, rfl⟩
  obtain ⟨hbW, hsW, hh0, hh1⟩ := step_boxes hW
  obtain ⟨x0, x1, x2, x3, x4, x5⟩ := elder_cells hh0
  have hin := h.below hbW
  have HO := hid (ofElder_calls s.t s.g0 s.g1 s.nx s.free fa ea fc ec s.es W hne hnf hin.rows hin.nums h.fn)
  have HBW := hid hbW
  have HSW := hid hsW
  have H1 := hid hh1
  have HU := hid (st0_up h.born)
  have HF := hid (faultU s)
  have hn : 0 < checkE s.t s.g0 s.g1 s.nx s.free s.es := by omega
  generalize checkE s.t s.g0 s.g1 s.nx s.free s.es = n at HF hn ⊢
  have hnz : (0 : Int) < (n : Int) := by omega
  clear h hin hbW hsW hh0 hh1 hc
  go_enter Try.func41, Try.ntmps41
  go_wp2_with fail
  refine HO.out.mono ?_
  rintro e w1 ⟨p, rfl, hG1, hb1⟩
  rw [HU.out] at hG1
  have HC := hid (fault_calls W.heap.size p false (upS s) w1 hG1)
  rw [HF.out] at HC
  have HB1 := hid hb1
  clear HO hG1 hb1 x0 x1 x2 x3 x4 x5 hW
  go_wp2_with fail
  refine HC.out.mono ?_
  rintro e w2 ⟨rfl, hb2⟩
  have hb12 : Below W.heap.size W w2 := HB1.out.trans (hb2.mono HB1.out.size)
  have hq := (hb12.block (w.heap.size + 1) (by rw [HSW.out]; omega)).trans H1.out
  obtain ⟨q0, q1, q2, q3, q4, q5⟩ := elder_cells hq
  have f0 := fun j => frozen_of_row w2 (w.heap.size + 1) j _ _ hq
  have HB2 : Hid (Below w.heap.size w w2) := HBW.out.trans (hb12.mono (by rw [HSW.out]; omega))
  clear HC hb2 hq hb12 HB1
  go_wp2
  exact bodyPost_ret (v := .tuple #[zeroE, .slice none 0 0, .int .i64 n]) (by simp [results, Try.results41, go_sem, q0, q1, q2, q3, q4, q5]) rfl ⟨rfl, below_six (b := w.heap.size + 1) HB2.out (Nat.le_succ _)⟩

set_option maxRecDepth 100000 in
set_option maxHeartbeats 8000000 in
theorem stepR_many (s : St) (fa ea la : Option Addr) (fc ec lc : Nat) (l : List (List Int)) (w : World) (h : InE w s fa ea fc ec) (hc : checkE s.t s.g0 s.g1 s.nx s.free s.es = 0) (hm : 8 < l.length ∨ s.t = 60) :
    Calls Try.prog 41 #[elderV s.t s.g0 s.g1 s.nx (.slice fa s.free.length fc) (.slice ea s.es.length ec), .slice la l.length lc] w fun e w' => e = .returned (.tuple #[zeroE, .slice none 0 0, .int .i64 2]) ∧ Below w.heap.size w w' := by
  have hI := inv_of_check hc
  obtain ⟨W, hW⟩ : ∃ W, (w.alloc (.cells #[.int .i64 s.t, .int .i64 s.g0, .int .i64 s.g1, .int .i64 s.nx, .slice fa s.free.length fc, .slice ea s.es.length ec] 60)).alloc (.cells #[.int .i64 0, .int .i64 0, .int .i64 0, .int .i64 0, .slice none 0 0, .slice none 0 0] 60) = W := ⟨_, rfl⟩
  obtain ⟨hbW, hsW, hh0, hh1⟩ := step_boxes hW
  obtain ⟨x0, x1, x2, x3, x4, x5⟩ := elder_cells hh0
  have hin := h.below hbW
  have HO := hid (ofElder_calls s.t s.g0 s.g1 s.nx s.free fa ea fc ec s.es W (by have := hI.el; omega) (by have := hI.fl; omega) hin.rows hin.nums h.fn)
  have HBW := hid hbW
  have HSW := hid hsW
  have H0 := hid hh0
  have H1 := hid hh1
  have HU := hid (st0_up h.born)
  have HF := hid (faultU s)
  rw [hc] at HF
  have hways : (8 : Int) < (l.length : Int) ∨ (¬ (8 : Int) < (l.length : Int) ∧ (s.t == 60) = true) := by
    by_cases h8 : 8 < l.length
    · exact Or.inl (by omega)
    · exact Or.inr ⟨by omega, by rcases hm with x | x; exact absurd x h8; simpa using x⟩
  clear h hin hbW hsW hh0 hh1 hc hm hI
  go_enter Try.func41, Try.ntmps41
  go_wp2_with fail
  refine HO.out.mono ?_
  rintro e w1 ⟨p, rfl, hG1, hb1⟩
  rw [HU.out] at hG1
  have HC := hid (fault_calls W.heap.size p false (upS s) w1 hG1)
  rw [HF.out] at HC
  have HB1 := hid hb1
  clear HO hG1 hb1 x0 x1 x2 x3 x4 x5 hW
  go_wp2_with fail
  refine HC.out.mono ?_
  rintro e w2 ⟨rfl, hb2⟩
  have hb12 : Below W.heap.size W w2 := HB1.out.trans (hb2.mono HB1.out.size)
  have hq := (hb12.block (w.heap.size + 1) (by rw [HSW.out]; omega)).trans H1.out
  have hr := (hb12.block w.heap.size (by rw [HSW.out]; omega)).trans H0.out
  obtain ⟨q0, q1, q2, q3, q4, q5⟩ := elder_cells hq
  obtain ⟨r0, _, _, _, _, _⟩ := elder_cells hr
  have f0 := fun j => frozen_of_row w2 (w.heap.size + 1) j _ _ hq
  have HB2 : Hid (Below w.heap.size w w2) := HBW.out.trans (hb12.mono (by rw [HSW.out]; omega))
  clear HC hb2 hq hr hb12 HB1
  rcases hways with h8 | ⟨h8, h60⟩
  all_goals
    go_wp2
    exact bodyPost_ret (v := .tuple #[zeroE, .slice none 0 0, .int .i64 2]) (by simp [results, Try.results41, go_sem, q0, q1, q2, q3, q4, q5]) rfl ⟨rfl, below_six (b := w.heap.size + 1) HB2.out (Nat.le_succ _)⟩
end Go.Proofs.Ytgiieepfhohmhaa
