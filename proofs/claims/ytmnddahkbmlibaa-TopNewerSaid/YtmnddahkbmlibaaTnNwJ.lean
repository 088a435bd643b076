/- Package newer of the program: who is who is told anew. -/
import Derived.Test.YtmnddahkbmlibaaTnNwI
namespace Go.Proofs.Ytmnddahkbmlibaa
open Go.RowKit Go.Maps
set_option maxRecDepth 100000 in
set_option maxHeartbeats 4000000 in
theorem tellN_calls (base p B : Nat) (uv : Value) (s : St) (f : Int → Option Value) (old : Int) (w : World) (hlen : s.es.length ≤ 1000) (h : GmN base w p uv B s f old) (hbw : base ≤ w.heap.size) :
    Calls Try.prog 154 #[.pointer (some ⟨p, 0, none⟩)] w fun e w' => e = .returned (.tuple #[]) ∧ GmN base w' p uv B s (whoK s.es s.es.length) old ∧ Below base w w' := by
  obtain ⟨w1, hcl, hw1, hg1⟩ := h.wh.clear
  have HG0 : Hid (GmN base w1 p uv B s (whoK s.es 0) old) := h.marked hg1 hw1
  have HB0 : Hid (Below base w w1) := below_grown (Below.refl _ _) hg1 h.bB hbw
  have c5 := h.cell 5
  obtain ⟨ea, c, rfl, hcc, _, _⟩ := h.er.open
  have d4 := HG0.out.cell 4
  have HBB := hid h.bB
  clear hw1 hg1 h hcc
  go_enter Try.func154, Try.ntmps154
  go_wp2
  clear c5 d4 hcl
  go_loopw [14] (fun i wr => ∃ k : Nat, k ≤ s.es.length ∧ i = .int .i64 k ∧ Hid (GmN base wr p (.slice ea s.es.length c) B s (whoK s.es k) old) ∧ Hid (Below base w wr)) (fun i _ => s.es.length - (intOf i).toNat)
  case atStart => exact ⟨0, Nat.zero_le _, rfl, HG0, HB0⟩
  case round =>
    clear HG0 HB0
    obtain ⟨k, hk, rfl, HG, HB⟩ := hrel
    by_cases hlt : k < s.es.length
    · have hltz : (k : Int) < (s.es.length : Int) := by omega
      obtain ⟨ea', c', hev, _, _, hE0⟩ := HG.out.er.open
      cases hev
      obtain ⟨g, rfl, hbg, hgl⟩ := hE0 (by omega)
      obtain ⟨hc, _⟩ := HG.out.er.cells hlt
      have l0 : wr.cell? ⟨g, k * 11, none⟩ = some (.int .i64 (fld (rec s.es k) 0)) := hc 0 (by omega)
      have l1 := hc 1 (by omega)
      have l2 := hc 2 (by omega)
      have l3 := hc 3 (by omega)
      have l4 := hc 4 (by omega)
      have l5 := hc 5 (by omega)
      have l6 := hc 6 (by omega)
      have l7 := hc 7 (by omega)
      have l8 := hc 8 (by omega)
      have l9 := hc 9 (by omega)
      have l10 := hc 10 (by omega)
      have HT := hid (whoK_succ s.es k)
      clear hc hE0
      generalize rec s.es k = y at l0 l1 l2 l3 l4 l5 l6 l7 l8 l9 l10 HT
      go_wp2_with fail
      have hbw1 : Below wr.heap.size wr (wr.alloc (.cells (unitC y) 110)) := (Below.refl _ wr).alloc (Nat.le_refl _) _
      have HG1 := hid (HG.out.below hbw1)
      have HB1 : Hid (Below base w (wr.alloc (.cells (unitC y) 110))) := HB.out.trans (hbw1.mono (Nat.le_trans hbw HB.out.size))
      obtain ⟨w3, hrun, hw3, hg3⟩ := Who.put (w := (wr.alloc (.cells (unitC y) 110)).drew) HG1.out.wh (fld y 0) (inV k)
      have HW3 := hid hw3
      have HG3 := hid (drew_grown hg3)
      have c5 := HG1.out.cell 5
      have y0 : (wr.alloc (.cells (unitC y) 110)).cell? ⟨wr.heap.size, 0, none⟩ = some (.int .i64 (fld y 0)) := by simp [go_sem]
      clear hw3 hg3 l0 l1 l2 l3 l4 l5 l6 l7 l8 l9 l10 hbw1
      generalize wr.alloc (.cells (unitC y) 110) = W1 at hrun HG1 HB1 HG3 c5 y0 ⊢
      go_region
      all_goals
        go_wp2
        go_roundw
        case rel =>
          refine ⟨k + 1, by omega, by go_num, ?_, ?_⟩
          · show GmN _ _ _ _ _ _ _ _
            rw [HT.out]
            exact HG1.out.marked HG3.out HW3.out
          · exact below_grown HB1.out HG3.out HBB.out (Nat.le_trans hbw HB1.out.size)
        case measure => simp [intOf]; omega
    · have hltz : ¬ (k : Int) < (s.es.length : Int) := by omega
      have hke : k = s.es.length := by omega
      subst hke
      go_wp2
      go_end0
      exact ⟨rfl, HG.out, HB.out⟩
end Go.Proofs.Ytmnddahkbmlibaa
