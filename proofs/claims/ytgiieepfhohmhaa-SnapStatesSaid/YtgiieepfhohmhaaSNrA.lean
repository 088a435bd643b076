/- The reference's game: a state of the newer game as a game, and back. -/
import Derived.BigQuiet
import Derived.Test.YtgiieepfhohmhaaSNwF
import Derived.Test.YtgiieepfhohmhaaSRefO
import Derived.Test.YtgiieepfhohmhaaSNwG
import Derived.Test.YtgiieepfhohmhaaSNwO
import Derived.Test.YtgiieepfhohmhaaSRefQ
namespace Go.Proofs.Ytgiieepfhohmhaa
open Go.RowKit Go.Maps
theorem Gr.newN (w : World) (t g0 g1 nx : Int) (base : Nat) (hb : base ≤ w.heap.size) : Gr base (w.alloc (.cells (refC true (st0 t g0 g1 nx [] []) nilV nilV nilV) 147)) w.heap.size nilV nilV nilV true (st0 t g0 g1 nx [] []) :=
  ⟨heap_alloc_new w _, World.ownsRow_nil _ _ _ _, World.ownsRow_nil _ _ _ _, World.ownsRow_nil _ _ _ _, hb, Or.inl rfl⟩
set_option maxRecDepth 100000 in
set_option maxHeartbeats 8000000 in
theorem ofNewer_calls (t g0 g1 nx : Int) (ua : Option Addr) (uc : Nat) (us : List (List Int)) (w : World) (hnu : us.length ≤ 1000) (hrow : Recs w ua 11 us) (hun : ua = none → uc = 0) :
    Calls Try.prog 55 #[newerV t g0 g1 nx (.slice ua us.length uc)] w fun e w' => ∃ p, e = .returned (.pointer (some ⟨p, 0, none⟩)) ∧ GrE w.heap.size w' p true (st0 t g0 g1 nx [] us) ∧ Below w.heap.size w w' := by
  obtain ⟨W, hW⟩ : ∃ W, (w.alloc (.cells (newerC t g0 g1 nx (.slice ua us.length uc)) 90)).alloc (.cells #[.bool true, .int .i64 t, .int .i64 g0, .int .i64 g1, .int .i64 nx, .slice none 0 0, .slice none 0 0, .slice none 0 0] 147) = W := ⟨_, rfl⟩
  have hbW : Below w.heap.size w W := by
    rw [← hW]
    exact ((Below.refl _ w).alloc (Nat.le_refl _) _).alloc (by simp [go_sem]) _
  have hsW : W.heap.size = w.heap.size + 2 := by rw [← hW]; simp [go_sem]
  have HGW : Hid (Gr w.heap.size W (w.heap.size + 1) nilV nilV nilV true (st0 t g0 g1 nx [] [])) := by
    have h := Gr.newN (w.alloc (.cells (newerC t g0 g1 nx (.slice ua us.length uc)) 90)) t g0 g1 nx w.heap.size (by simp [go_sem])
    have hW' : (w.alloc (.cells (newerC t g0 g1 nx (.slice ua us.length uc)) 90)).alloc (.cells (refC true (st0 t g0 g1 nx [] []) nilV nilV nilV) 147) = W := hW
    rw [hW'] at h
    have e : (w.alloc (.cells (newerC t g0 g1 nx (.slice ua us.length uc)) 90)).heap.size = w.heap.size + 1 := by simp [go_sem]
    rw [e] at h
    exact h
  have hbx : W.heap[w.heap.size]? = some (.cells (newerC t g0 g1 nx (.slice ua us.length uc)) 90) := by
    rw [← hW, heap_alloc_old _ _ (by simp [go_sem])]
    exact heap_alloc_new w _
  have b4 : W.cell? ⟨w.heap.size, 4, none⟩ = some (.slice ua us.length uc) := cell_of_row W _ 4 _ _ _ hbx
  have g6 : W.cell? ⟨w.heap.size + 1, 6, none⟩ = some nilV := HGW.out.cell 6
  have gf6 : W.frozen? ⟨w.heap.size + 1, 6, none⟩ = false := HGW.out.frozen 6
  have HRW := hid (hrow.below hbW)
  have HBW := hid hbW
  have HUN := hid hun
  clear hrow hbx hbW hun
  go_enter Try.func55, Try.ntmps55
  go_wp2_with fail
  go_region_law (refine step_rowsU rfl (.tmp 16) (.tmp 18) rfl w.heap.size nilV [] (by simp [Act.eval]) (World.ownsRow_nil _ _ _ _) ua uc us (by simp [Act.eval]) HRW.out HUN.out (by show 0 + us.length ≤ 100000; omega) (by simp [go_sem]; omega) ?_
                 intro v' w' hr hg hl
                 rw [List.nil_append] at hr
                 have hr' := hr
                 obtain ⟨va, vc, rfl, _, _, _⟩ := hr'.open
                 have hb' : Below W.heap.size W w' := (Below.refl _ W).grown ⟨hg.os, hg.tape, hg.output, hg.size, hg.block⟩ (Nat.le_refl _) (fun k hk => by cases hk)
                 have d6 : w'.cell? ⟨w.heap.size + 1, 6, none⟩ = some nilV := (HGW.out.below hb').cell 6
                 have f6 : w'.frozen? ⟨w.heap.size + 1, 6, none⟩ = false := (HGW.out.below hb').frozen 6
                 have HR' := hid hr
                 have HB' := hid hb'
                 have HG' : Hid (W.grownBy w' nilV.ownBlock) := ⟨hg.os, hg.tape, hg.output, hg.size, hg.block⟩
                 clear hr hr' hg hl hb')
  all_goals
    go_wp2
    go_ret
    exact ⟨_, rfl, ⟨_, _, _, Gr.grewU HGW.out HR'.out HG'.out⟩, (HBW.out.trans (HB'.out.mono (by rw [hsW]; omega))).setCell (p := ⟨w.heap.size + 1, 6, none⟩) (Nat.le_succ _) _⟩
end Go.Proofs.Ytgiieepfhohmhaa
namespace Go.Proofs.Ytgiieepfhohmhaa
open Go.RowKit Go.Maps
theorem st0_N {s : St} (hf : s.free = []) (hb : s.born = []) : st0 s.t s.g0 s.g1 s.nx [] s.es = s := by
  cases s
  simp only at hf hb
  subst hf hb
  rfl
end Go.Proofs.Ytgiieepfhohmhaa
namespace Go.Proofs.Ytgiieepfhohmhaa
open Go.RowKit Go.Maps
theorem goldN_eq (a b : Int) (w : World) : (Op.equalIn 10000 56 (.agg #[.int .i64 a, .int .i64 b]) (.agg #[.int .i64 a, .int .i64 b])).run Try.prog w = .ok true w := by
  obtain ⟨i0, hi, _, _, _⟩ := info_parts info_int
  rw [Go.run_equalIn_array w 9999 _ _ Try.underlying56 hi]
  have e : List.range 2 = [0, 1] := rfl
  have c1 : Try.prog.cellsOf 3 = 1 := by kernel_rfl
  rw [e, c1]
  simp [Op.eqItems, go_sem]
theorem unit_eq (u : List Int) (w : World) : (Op.equalIn 10000 110 (unitV u) (unitV u)).run Try.prog w = .ok true w := by
  rw [run_equalIn_struct w 9999 110 _ _ (by kernel_rfl) (by kernel_rfl)]
  simp [go_sem]
set_option maxRecDepth 100000 in
set_option maxHeartbeats 4000000 in
theorem sameNewer_calls (t g0 g1 nx : Int) (es : List (List Int)) (ea eb : Option Addr) (ec ed : Nat) (w : World) (hne : es.length ≤ 100000) (h3 : Recs w ea 11 es) (h4 : Recs w eb 11 es) :
    Calls Try.prog 56 #[newerV t g0 g1 nx (.slice ea es.length ec), newerV t g0 g1 nx (.slice eb es.length ed)] w fun e w' => e = .returned (.bool true) ∧ Below w.heap.size w w' := by
  obtain ⟨W, hW⟩ : ∃ W, (w.alloc (.cells (newerC t g0 g1 nx (.slice ea es.length ec)) 90)).alloc (.cells (newerC t g0 g1 nx (.slice eb es.length ed)) 90) = W := ⟨_, rfl⟩
  have hbW : Below w.heap.size w W := by rw [← hW]; exact ((Below.refl _ w).alloc (Nat.le_refl _) _).alloc (by simp [go_sem]) _
  have hsW : W.heap.size = w.heap.size + 2 := by rw [← hW]; simp [go_sem]
  have hh0 : W.heap[w.heap.size]? = some (.cells (newerC t g0 g1 nx (.slice ea es.length ec)) 90) := by
    rw [← hW, heap_alloc_old _ _ (by simp [go_sem])]
    exact heap_alloc_new w _
  have hh1 : W.heap[w.heap.size + 1]? = some (.cells (newerC t g0 g1 nx (.slice eb es.length ed)) 90) := by
    have e : w.heap.size + 1 = (w.alloc (.cells (newerC t g0 g1 nx (.slice ea es.length ec)) 90)).heap.size := by simp [go_sem]
    rw [← hW, e]
    exact heap_alloc_new _ _
  obtain ⟨x0, x1, x2, x3, x4, _⟩ := five_cells hh0
  obtain ⟨y0, y1, y2, y3, y4, _⟩ := five_cells hh1
  have HA := hid (h3.below hbW)
  have HB := hid (h4.below hbW)
  have HBW := hid hbW
  have HSW := hid hsW
  have H0 := hid hh0
  have H1 := hid hh1
  have hgs := goldN_eq g0 g1
  have ht : (t != t) = false := by simp
  have hnx : (nx != nx) = false := by simp
  have hll : ((es.length : Int) != (es.length : Int)) = false := by simp
  clear h3 h4 hbW hsW hh0 hh1
  go_enter Try.func56, Try.ntmps56
  go_wp2_with fail
  clear x0 x1 x2 x3 x4 y0 y1 y2 y3 y4 hW hgs
  go_loopw [5] (fun i wr => ∃ k : Nat, k ≤ es.length ∧ i = .int .i64 k ∧ Hid (Below W.heap.size W wr)) (fun i _ => es.length - (intOf i).toNat)
  case atStart => exact ⟨0, Nat.zero_le _, rfl, Below.refl _ _⟩
  case round =>
    obtain ⟨k, hk, rfl, HBk⟩ := hrel
    have hq0 := (HBk.out.block w.heap.size (by rw [HSW.out]; omega)).trans H0.out
    have hq1 := (HBk.out.block (w.heap.size + 1) (by rw [HSW.out]; omega)).trans H1.out
    obtain ⟨_, _, _, _, z4, _⟩ := five_cells hq0
    obtain ⟨_, _, _, _, v4, _⟩ := five_cells hq1
    clear hq0 hq1
    by_cases hlt : k < es.length
    · have hltz : (k : Int) < (es.length : Int) := by omega
      obtain ⟨b, o, rfl, hc⟩ := (HA.out.below HBk.out).at hlt
      obtain ⟨b', o', rfl, hd⟩ := (HB.out.below HBk.out).at hlt
      have l0 : wr.cell? ⟨b, o + k * 11, none⟩ = some (.int .i64 (fld (rec es k) 0)) := hc 0 (by omega)
      have l1 := hc 1 (by omega)
      have l2 := hc 2 (by omega)
      have l3 := hc 3 (by omega)
      have l4 := hc 4 (by omega)
      have l5 := hc 5 (by omega)
      have l6 := hc 6 (by omega)
      have l7 := hc 7 (by omega)
      have l8 := hc 8 (by omega)
      have l9 := hc 9 (by omega)
      have l10 := hc 10 (by omega)
      have m0 : wr.cell? ⟨b', o' + k * 11, none⟩ = some (.int .i64 (fld (rec es k) 0)) := hd 0 (by omega)
      have m1 := hd 1 (by omega)
      have m2 := hd 2 (by omega)
      have m3 := hd 3 (by omega)
      have m4 := hd 4 (by omega)
      have m5 := hd 5 (by omega)
      have m6 := hd 6 (by omega)
      have m7 := hd 7 (by omega)
      have m8 := hd 8 (by omega)
      have m9 := hd 9 (by omega)
      have m10 := hd 10 (by omega)
      clear hc hd
      generalize rec es k = u at l0 l1 l2 l3 l4 l5 l6 l7 l8 l9 l10 m0 m1 m2 m3 m4 m5 m6 m7 m8 m9 m10
      have heq := unit_eq u
      go_wp2_with fail
      go_quiet (fail)
      go_wp2
      go_roundw
      case rel => exact ⟨k + 1, by omega, by go_num, below_drewN HBk.out _⟩
      case measure => simp [intOf]; omega
    · have hltz : ¬ (k : Int) < (es.length : Int) := by omega
      have HF : Hid (Below w.heap.size w wr) := HBW.out.trans (HBk.out.mono (by rw [HSW.out]; omega))
      go_wp2
      go_ret
      exact ⟨rfl, HF.out⟩
end Go.Proofs.Ytgiieepfhohmhaa
