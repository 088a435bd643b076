/- ElderSays: what its text calls besides: a closed fact; what is light. -/
import Derived.Test.YtgiieepfhohmhabTElA
import Derived.Test.YtgiieepfhohmhabTPlyB
namespace Go.Proofs.Ytgiieepfhohmhab
open Go.RowKit Go.Maps
set_option maxRecDepth 100000 in
set_option maxHeartbeats 1000000 in
theorem lightElder_calls (t g0 g1 nx : Int) (fa ea : Option Addr) (nf ne fc ec : Nat) (w : World) :
    Calls Try.prog 14 #[elderV t g0 g1 nx (.slice fa nf fc) (.slice ea ne ec)] w fun e w' => e = .returned (.bool (decide (ne ≤ 25 ∧ nf ≤ 220))) ∧ Below w.heap.size w w' := by
  have hb : Below w.heap.size w (w.alloc (.cells (elC t g0 g1 nx (.slice fa nf fc) (.slice ea ne ec)) 36)) := (Below.refl _ w).alloc (Nat.le_refl _) _
  have HB := hid hb
  clear hb
  by_cases h1 : ne ≤ 25
  · have h1z : (ne : Int) ≤ 25 := by omega
    by_cases h2 : nf ≤ 220
    · have h2z : (nf : Int) ≤ 220 := by omega
      rw [decide_eq_true ⟨h1, h2⟩]
      clear h1 h2
      go_enter Try.func14, Try.ntmps14
      go_wp2
      go_ret
      exact ⟨rfl, HB.out⟩
    · have h2z : ¬ (nf : Int) ≤ 220 := by omega
      rw [decide_eq_false (fun h => h2 h.2)]
      clear h1 h2
      go_enter Try.func14, Try.ntmps14
      go_wp2
      go_ret
      exact ⟨rfl, HB.out⟩
  · have h1z : ¬ (ne : Int) ≤ 25 := by omega
    rw [decide_eq_false (fun h => h1 h.1)]
    clear h1
    go_enter Try.func14, Try.ntmps14
    go_wp2
    go_ret
    exact ⟨rfl, HB.out⟩
set_option maxRecDepth 100000 in
set_option maxHeartbeats 4000000 in
theorem lightTape_calls (s : St) (fa ea ta : Option Addr) (fc ec tc : Nat) (ls : List (List (List Int))) (w : World) (ht : Tks w ta ls) :
    Calls Try.prog 9 #[tapeV s.t s.g0 s.g1 s.nx (.slice fa s.free.length fc) (.slice ea s.es.length ec) (.slice ta ls.length tc)] w fun e w' => ∃ b, e = .returned (.bool b) ∧ (b = true → ls.length ≤ 70 ∧ s.es.length ≤ 25 ∧ s.free.length ≤ 220) ∧ Below w.heap.size w w' := by
  obtain ⟨W, hW⟩ : ∃ W, w.alloc (.cells (tapeC s.t s.g0 s.g1 s.nx (.slice fa s.free.length fc) (.slice ea s.es.length ec) (.slice ta ls.length tc)) 39) = W := ⟨_, rfl⟩
  have hbW : Below w.heap.size w W := by rw [← hW]; exact (Below.refl _ w).alloc (Nat.le_refl _) _
  have hh0 : W.heap[w.heap.size]? = some (.cells (tapeC s.t s.g0 s.g1 s.nx (.slice fa s.free.length fc) (.slice ea s.es.length ec) (.slice ta ls.length tc)) 39) := by rw [← hW]; exact heap_alloc_new _ _
  obtain ⟨x0, x1, x2, x3, x4, x5, x6⟩ := tape_cells hh0
  have HT := hid (ht.below hbW)
  have HBW := hid hbW
  have hwW : w.heap.size ≤ W.heap.size := hbW.size
  clear ht hbW hh0
  by_cases h70 : ls.length ≤ 70
  case neg =>
    have hz : (70 : Int) < (ls.length : Int) := by omega
    go_enter Try.func9, Try.ntmps9
    go_wp2
    go_ret
    exact ⟨false, rfl, (fun h => by cases h), HBW.out⟩
  case pos =>
    have hz : ¬ (70 : Int) < (ls.length : Int) := by omega
    go_enter Try.func9, Try.ntmps9
    go_wp2_with fail
    go_loopw [3] (fun i wr => ∃ k : Nat, k ≤ ls.length ∧ i = .int .i64 k ∧ wr = W) (fun i _ => ls.length - (intOf i).toNat)
    case atStart => exact ⟨0, Nat.zero_le _, rfl, rfl⟩
    case round =>
      obtain ⟨k, hk, rfl, rfl⟩ := hrel
      by_cases hkl : k < ls.length
      · have hkz : (k : Int) < (ls.length : Int) := by omega
        obtain ⟨b, o, la, lc, rfl, hcell, _⟩ := HT.out.at hkl
        generalize ls.getD k [] = l at hcell
        by_cases h12 : l.length ≤ 12
        · have h12z : ¬ (12 : Int) < (l.length : Int) := by omega
          go_wp2
          go_roundw
          case rel => exact ⟨k + 1, by omega, by go_num, trivial⟩
          case measure => simp [intOf]; omega
        · have h12z : (12 : Int) < (l.length : Int) := by omega
          go_wp2
          go_ret
          exact ⟨false, rfl, (fun h => by cases h), HBW.out⟩
      · have hkz : ¬ (k : Int) < (ls.length : Int) := by omega
        go_wp2_with fail
        refine (lightElder_calls _ _ _ _ _ _ _ _ _ _ _).mono ?_
        rintro e w2 ⟨rfl, hb2⟩
        have HB2 : Hid (Below w.heap.size w w2) := HBW.out.trans (hb2.mono hwW)
        clear hb2
        go_wp2
        go_ret
        exact ⟨_, rfl, (fun h => ⟨h70, by rw [Bool.and_eq_true, decide_eq_true_eq, decide_eq_true_eq] at h; exact h⟩), HB2.out⟩
end Go.Proofs.Ytgiieepfhohmhab
namespace Go.Proofs.Ytgiieepfhohmhab
open Go.RowKit Go.Maps
section
variable {ops : Array Oper} {o : Oper} {a : Act} {K : Act → World → Prop} {Q : Exit → Act → World → Prop} {E : Prop}
end
section
variable {ops : Array Oper} {o : Oper} {a : Act} {K : Act → World → Prop} {Q : Exit → Act → World → Prop} {E : Prop}
end
theorem recs_off {w : World} {a : Option Addr} {n b j : Nat} {rs : List (List Int)} {v : Value} (h : Recs w a n rs) (ho : ∀ g o, a = some ⟨g, o, none⟩ → g ≠ b) : Recs (w.setCell ⟨b, j, none⟩ v) a n rs := by
  rcases h with h | ⟨g, o, e, hc⟩
  · exact Or.inl h
  · refine Or.inr ⟨g, o, e, fun i hi q hq => ?_⟩
    rw [← hc i hi q hq]
    unfold World.cell?
    simp only [heap_setCell_other w ⟨b, j, none⟩ g v (fun x => ho g o e x)]
end Go.Proofs.Ytgiieepfhohmhab
