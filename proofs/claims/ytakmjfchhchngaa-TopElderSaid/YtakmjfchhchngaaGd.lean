/- A tick begins. -/
import Derived.Test.YtakmjfchhchngaaGc
namespace Go.Proofs.Ytakmjfchhchngaa
open Go.RowKit Go.Maps

theorem Counts.run {w : World} {B n : Nat} {f : Int → Int} (h : Counts w B n f) (hn : n ≤ 100000) {id c : Int} (hwf : (Lit.int .i64 id).wf = true) (hwc : (Lit.int .i64 c).wf = true) :
    ∃ w', (Instr.mapUpdate 123 (.map (some B)) (.int .i64 id) (.int .i64 c)).run Try.prog w = .ok () w' ∧ Counts w' B (n + 1) (updZ f id c) ∧ w.grownBy w' (some B) := by
  obtain ⟨D, h1, h2, h3⟩ := h
  obtain ⟨w', hr, ho, hg⟩ := h1.update intKey Try.underlying123 (by unfold maxLen; omega) (keyOf_int_mk Try.underlying3 hwf) (plainElem_int Try.underlying3 hwc)
  refine ⟨w', hr, ⟨_, ho, h2.put _ _, fun j hj => ?_⟩, hg⟩
  by_cases e : j = id
  · rw [e, atKey_put_same h2 (by trivial), updZ_same]
  · rw [atKey_put_other (by intro h; exact e (by simpa using h)), updZ_other _ _ e]
    exact h3 j hj
theorem own_mono {w : World} {base base' : Nat} {e : TypeId} {size : Nat} {v : Value} {n : Nat} {xs : List Value} (h : w.ownsRow base e size v n xs) (hb : base' ≤ base) : w.ownsRow base' e size v n xs := by
  refine ⟨h.1, ?_⟩
  rcases h.2 with hn | ⟨g, cap, cur, rfl, hbg, rest⟩
  · exact .inl hn
  · exact .inr ⟨g, cap, cur, rfl, by omega, rest⟩

def wasF (l : List Int) (id : Int) : Int := if id ∈ l then 1 else 0
theorem wasF_snoc (l : List Int) (x : Int) : updZ (wasF l) x 1 = wasF (l ++ [x]) := by
  funext j
  by_cases h : j = x
  · subst h
    rw [updZ_same]
    simp [wasF]
  · rw [updZ_other _ _ h]
    simp [wasF, h]

theorem Gm.marked {base : Nat} {w w' : World} {p : Nat} {ev fv bv : Value} {B : Nat} {s : St} {was was' : Int → Int} (h : Gm base w p ev fv bv B s was) (hg : w.grownBy w' (some B)) (hc : Counts w' B 1000 was') : Gm base w' p ev fv bv B s was' := by
  obtain ⟨me, mc, hm⟩ := h.ct.isMap
  refine ⟨(hg.block p h.lt (fun e => h.pB (by simpa using e))).trans h.hp, ?_, ?_, ?_, hc, h.bp, h.bB, h.fb⟩
  · exact World.ownsRow.kept h.er hg (Or.inr (row_ne_map h.er hm))
  · exact World.ownsRow.kept h.fr hg (Or.inr (row_ne_map h.fr hm))
  · exact World.ownsRow.kept h.br hg (Or.inr (row_ne_map h.br hm))
theorem below_grown {B base : Nat} {a w w' : World} (h : Below base a w) (hg : w.grownBy w' (some B)) (hb : base ≤ B) (hs : base ≤ w.heap.size) : Below base a w' := h.grown hg hs (fun k hk => by cases hk; exact hb)
theorem drew_grown {w w' : World} {r : Option Nat} (h : w.drew.grownBy w' r) : w.grownBy w' r := ⟨h.os, h.tape, h.output, h.size, h.block⟩

set_option maxRecDepth 100000 in
set_option maxHeartbeats 4000000 in
theorem begin_calls (t g0 g1 nx : Int) (free : List Int) (fa ea : Option Addr) (fc ec : Nat) (es : List (List Int)) (w : World) (hfn : fa = none → fc = 0) (hen : ea = none → ec = 0) (hlf : free.length ≤ 1000) (hle : es.length ≤ 100)
    (hrow : Recs w ea 10 es) (hfr : Nums w fa free) (hwe : ∀ i, i < es.length → (Lit.int .i64 (fld (rec es i) 0)).wf = true) :
    Calls Try.prog 66 #[elderV t g0 g1 nx (.slice fa free.length fc) (.slice ea es.length ec)] w fun e w' => ∃ p ev fv B, e = .returned (.pointer (some ⟨p, 0, none⟩)) ∧ Gm w.heap.size w' p ev fv (.slice none 0 0) B ⟨t, g0, g1, nx, free, es, []⟩ (wasF (idsE es)) ∧ Below w.heap.size w w' := by
  obtain ⟨w1, hw1⟩ : ∃ w1, w1 = w.alloc (.cells #[.int .i64 t, .int .i64 g0, .int .i64 g1, .int .i64 nx, .slice fa free.length fc, .slice ea es.length ec] 60) := ⟨_, rfl⟩
  have hb1 : Below w.heap.size w w1 := by rw [hw1]; exact (Below.refl _ w).alloc (Nat.le_refl _) _
  have HS1 : Hid (w1.heap.size = w.heap.size + 1) := by rw [hw1]; show _ = _; simp [go_sem]
  have HC := hid (fresh_calls t g0 g1 nx free fa ea fc ec es w1 hfn hen hlf (by omega) (hrow.below hb1) (hfr.below hb1))
  have HR := hid hrow
  have HWE := hid hwe
  have HW1 := hid hw1
  have HB1 := hid hb1
  clear hrow hfr hwe hw1 hb1
  have hmm := @run_makeMap Try.prog
  go_enter Try.func66, Try.ntmps66
  go_wp2_with fail
  rw [← HW1.out]
  refine HC.out.mono ?_
  clear HC
  rintro e w2 ⟨fv, ev, rfl, hr1, hr2, hb2⟩
  obtain ⟨q0, q1, q2, q3, q4, q5⟩ := box_new HW1.out hb2
  have hsz2 : w.heap.size < w2.heap.size := by have h := hb2.size; rw [HS1.out] at h; omega
  have HB2 := hid (HB1.out.trans (hb2.mono (by rw [HS1.out]; omega)))
  have HR1 := hid (own_mono hr1 (show w.heap.size ≤ _ by rw [HS1.out]; omega))
  have HR2 := hid (own_mono hr2 (show w.heap.size ≤ _ by rw [HS1.out]; omega))
  clear hr1 hr2 hb2 HW1 HB1 HS1 q0 q1 q2 q3 q4
  go_wp2
  clear q5 hmm
  obtain ⟨W, hW⟩ : ∃ W, W = (w2.alloc (.map #[] 0)).alloc (.cells #[.int .i64 t, .int .i64 g0, .int .i64 g1, .int .i64 nx, fv, ev, .map (some w2.heap.size), .slice none 0 0] 125) := ⟨_, rfl⟩
  have hsm : (w2.alloc (.map #[] 0)).heap.size = w2.heap.size + 1 := by simp [go_sem]
  have hb3 : Below w2.heap.size w2 W := by rw [hW]; exact ((Below.refl _ w2).alloc (Nat.le_refl _) _).alloc (by rw [hsm]; omega) _
  have hC0 : Counts W w2.heap.size 0 (wasF (idsE (es.take 0))) := by
    have e : wasF (idsE (es.take 0)) = fun _ => 0 := by funext j; simp [wasF, idsE]
    rw [e, hW]
    exact (Counts.made w2).alloc _
  have hG0 : Gm w.heap.size W (w2.heap.size + 1) ev fv (.slice none 0 0) w2.heap.size ⟨t, g0, g1, nx, free, es, []⟩ (wasF (idsE (es.take 0))) := by
    refine ⟨?_, row_below HR2.out hb3, row_below HR1.out hb3, World.ownsRow_nil _ _ _ _, hC0.mono (by omega), by omega, by omega, ?_⟩
    · rw [hW, ← hsm]
      exact heap_alloc_new _ _
    · by_cases h : fv.ownBlock = none
      · exact Or.inl h
      · exact Or.inr h
  have HC0 := hid hC0
  have HG0 := hid hG0
  have HB3 : Hid (Below w.heap.size w W) := HB2.out.trans (hb3.mono (by omega))
  clear hC0 hG0 hb3 hsm HR1 HR2
  rw [← hW]
  have HW := hid hW
  clear hW
  go_loopw [14] (fun i wr => ∃ k : Nat, k ≤ es.length ∧ i = .int .i64 k ∧ Hid (Counts wr w2.heap.size k (wasF (idsE (es.take k)))) ∧ Hid (Gm w.heap.size wr (w2.heap.size + 1) ev fv (.slice none 0 0) w2.heap.size ⟨t, g0, g1, nx, free, es, []⟩ (wasF (idsE (es.take k)))) ∧ Hid (Below w.heap.size w wr)) (fun i _ => es.length - (intOf i).toNat)
  case atStart => exact ⟨0, Nat.zero_le _, rfl, HC0, HG0, HB3⟩
  case round =>
    clear HC0 HG0 HB3 HW HB2
    obtain ⟨k, hk, rfl, HC, HG, HB⟩ := hrel
    by_cases hlt : k < es.length
    · obtain ⟨b, o, rfl, hb, l0, l1, l2, l3, l4, l5, l6, l7, l8, l9⟩ := (HR.out.below HB.out).ten hlt
      have hltz : (k : Int) < (es.length : Int) := by omega
      have HWF := hid (HWE.out k hlt)
      have HT := hid (ids_take hlt)
      generalize rec es k = y at l0 l1 l2 l3 l4 l5 l6 l7 l8 l9 HWF HT
      go_wp2_with fail
      have hbw : Below wr.heap.size wr (wr.alloc (.cells (entC y) 86)) := (Below.refl _ wr).alloc (Nat.le_refl _) _
      have HG1 := hid (HG.out.below hbw)
      have HB1 : Hid (Below w.heap.size w (wr.alloc (.cells (entC y) 86))) := HB.out.trans (hbw.mono HB.out.size)
      obtain ⟨w3, hrun, hc3, hg3⟩ := Counts.run (w := (wr.alloc (.cells (entC y) 86)).drew) (HC.out.alloc _) (by omega) HWF.out (wf64 (a := 1) (by omega) (by omega))
      have HC3 := hid hc3
      have HG3 := hid (drew_grown hg3)
      have c6 := HG1.out.cell 6
      have y0 : (wr.alloc (.cells (entC y) 86)).cell? ⟨wr.heap.size, 0, none⟩ = some (.int .i64 (fld y 0)) := by simp [go_sem]
      clear hc3 hg3 l0 l1 l2 l3 l4 l5 l6 l7 l8 l9 hbw
      generalize wr.alloc (.cells (entC y) 86) = W1 at hrun HG1 HB1 HG3 c6 y0 ⊢
      go_region
      all_goals
        go_wp2
        go_roundw
        case rel =>
          refine ⟨k + 1, by omega, by go_num, ?_, ?_, ?_⟩
          · show Counts _ _ _ _
            rw [HT.out, ← wasF_snoc]
            exact HC3.out
          · show Gm _ _ _ _ _ _ _ _ _
            rw [HT.out, ← wasF_snoc]
            exact HG1.out.marked HG3.out (HC3.out.mono (by omega))
          · exact below_grown HB1.out HG3.out (by omega) HB1.out.size
        case measure => simp [intOf]; omega
    · have hltz : ¬ (k : Int) < (es.length : Int) := by omega
      have e : es.take k = es := List.take_of_length_le (by omega)
      have hG := HG.out
      rw [e] at hG
      have HG1 := hid hG
      clear hG HC HG e
      go_wp2
      go_ret

      exact ⟨_, rfl, ⟨_, _, _, HG1.out⟩, HB.out⟩
end Go.Proofs.Ytakmjfchhchngaa
