/- What comes in as data: tapes and reels, and that their numbers have bytes. -/
import Derived.Test.YtcbalhicaipmlaaGreatSRdA
import Derived.Test.YtcbalhicaipmlaaGreatSSmN
namespace Go.Proofs.YtcbalhicaipmlaaGreat
open Go.ChangeShapes Go.WideShapes Go.ChangeAt Go.RowKit Go.Deep
section
variable {H : Type} {enc : TypeId × Value → H} {w : World} {base : Nat} {spare : Nat → Bool} {held : Bool}
theorem openW_ticks {fuel : Nat} {v : Value} {x : DataW H × List MemPlace} (h : DataW.trod enc Tryz.prog w base spare held fuel 27 [v] = some x) :
    ∃ (a : Option Addr) (c : Nat) (ls : List (List (List Int))), v = .slice a ls.length c ∧ Tks w a ls ∧ ls.length ≤ c ∧ ∀ x ∈ ls, ∀ u ∈ x, ∀ j, j < 7 → fld u j < 9223372036854775808 := by
  rcases open_slice Tryz.underlying27 h with ⟨hc, _⟩ | ⟨a, len, cap, m, n, D, Pl, hc, _, hl, _, hm, _, hx⟩
  · simp only [List.cons.injEq, and_true] at hc
    exact ⟨none, 0, [], hc, Or.inl rfl, Nat.le_refl _, fun x hx => absurd hx List.not_mem_nil⟩
  · simp only [List.cons.injEq, and_true] at hc
    have hlm : len ≤ m := by rw [hm]; split <;> omega
    have hcell : ∀ i, i < len → ∃ (rs : List (List Int)) (la : Option Addr) (lc : Nat), w.cell? (a.add i) = some (.slice la rs.length lc) ∧ Recs w la 7 rs ∧ ∀ i, i < rs.length → ∀ j, j < 7 → (Lit.int .i64 (fld (rec rs i) j)).wf = true := by
      intro i hi
      obtain ⟨cs', h1, h2⟩ := hx i (by omega)
      rw [cmds_cellsOf, Nat.mul_one] at h1
      obtain ⟨h3, h4⟩ := cells_at h1
      obtain ⟨v0, rfl⟩ := one_of h3
      obtain ⟨la, lc, rs, rfl, hr, _, _, hwf⟩ := open_recs (k := 7) (by omega) Tryz.underlying76 Tryz.underlying85 cmd_cellsOf (by kernel_rfl) h2
      have := h4 0 (by omega)
      rw [Addr.add_add, Nat.add_zero] at this
      exact ⟨rs, la, lc, this, hr, hwf⟩
    by_cases h0 : len = 0
    · subst h0
      exact ⟨some a, cap, [], hc, Or.inl rfl, Nat.zero_le _, fun x hx => absurd hx List.not_mem_nil⟩
    · obtain ⟨b, off, spot⟩ := a
      obtain ⟨rs0, la0, lc0, hz0, _, _⟩ := hcell 0 (by omega)
      have hspot : spot = none := by simpa [Addr.add] using World.cell?_spot hz0
      subst hspot
      have hall : ∀ i, ∃ rs : List (List Int), i < len → ∃ (la : Option Addr) (lc : Nat), w.cell? ⟨b, off + i, none⟩ = some (.slice la rs.length lc) ∧ Recs w la 7 rs ∧ ∀ i, i < rs.length → ∀ j, j < 7 → (Lit.int .i64 (fld (rec rs i) j)).wf = true := by
        intro i
        by_cases hi : i < len
        · obtain ⟨rs, la, lc, h1, h2, h3⟩ := hcell i hi
          rw [add_plain] at h1
          exact ⟨rs, fun _ => ⟨la, lc, h1, h2, h3⟩⟩
        · exact ⟨[], fun h => absurd h hi⟩
      obtain ⟨f, hf⟩ := Classical.axiomOfChoice hall
      have hget : ∀ i, i < len → ((List.range len).map f).getD i [] = f i := fun i hi => by simp [List.getD_eq_getElem?_getD, hi]
      refine ⟨some ⟨b, off, none⟩, cap, (List.range len).map f, ?_, Or.inr ⟨b, off, rfl, fun i hi => ?_⟩, ?_, ?_⟩
      · simp only [List.length_map, List.length_range]
        exact hc
      · simp only [List.length_map, List.length_range] at hi
        rw [hget i hi]
        obtain ⟨la, lc, h1, h2, _⟩ := hf i hi
        exact ⟨la, lc, h1, h2⟩
      · simp only [List.length_map, List.length_range]
        exact hl
      · intro x hx u hu j hj
        obtain ⟨i, hi, rfl⟩ := List.mem_map.1 hx
        obtain ⟨_, _, _, _, h3⟩ := hf i (List.mem_range.1 hi)
        obtain ⟨q, hq, rfl⟩ := List.getElem_of_mem hu
        have h4 := h3 q hq j hj
        rw [rec_at hq] at h4
        have h5 := (bounds_i64 h4).2
        omega
set_option maxRecDepth 100000 in
theorem openW_tape {fuel : Nat} {cs : Array Value} {x : DataW H × List MemPlace} (h : DataW.trod enc Tryz.prog w base spare held fuel 29 cs.toList = some x) :
    ∃ (s : St) (fa ea ta : Option Addr) (fc ec tc : Nat) (ls : List (List (List Int))), cs = tapeC s.t s.g0 s.g1 s.nx (.slice fa s.free.length fc) (.slice ea s.es.length ec) (.slice ta ls.length tc) ∧ InE w s fa ea fc ec ∧ Tks w ta ls ∧ ls.length ≤ tc ∧ ∀ x ∈ ls, ∀ u ∈ x, ∀ j, j < 7 → fld u j < 9223372036854775808 := by
  obtain ⟨xs, m, _, _, hl, hlen, hf⟩ := DataW.trod_struct Tryz.underlying29 h
  rw [tape_cellsOf] at hl
  obtain ⟨l⟩ := cs
  simp only at hl hf
  obtain ⟨c0, c1, c2, c3, c4, c5, c6, rfl⟩ := seven_of hl
  have hget : ∀ i, i < 2 → ∃ y, xs[i]? = some y := fun i hi => ⟨xs[i]'(by rw [hlen]; exact hi), List.getElem?_eq_getElem _⟩
  obtain ⟨y0, e0⟩ := hget 0 (by omega)
  obtain ⟨y1, e1⟩ := hget 1 (by omega)
  have h0 : DataW.trod enc Tryz.prog w base spare held m 26 (List.take (Tryz.prog.cellsOf 26) [c0, c1, c2, c3, c4, c5, c6]) = some y0 := (hf 0 _ rfl).trans e0
  have h1 : DataW.trod enc Tryz.prog w base spare held m 27 (List.take (Tryz.prog.cellsOf 27) [c6]) = some y1 := (hf 1 _ rfl).trans e1
  rw [elder_cellsOf] at h0
  rw [ticks_cellsOf] at h1
  have h0' : DataW.trod enc Tryz.prog w base spare held m 26 (#[c0, c1, c2, c3, c4, c5] : Array Value).toList = some y0 := h0
  have h1' : DataW.trod enc Tryz.prog w base spare held m 27 [c6] = some y1 := h1
  obtain ⟨s, fa, ea, fc, ec, hcs, hin⟩ := open_elder h0'
  obtain ⟨ta, tc, ls, rfl, ht, htc, hwf⟩ := openW_ticks h1'
  simp only [Array.mk.injEq, List.cons.injEq, and_true] at hcs
  obtain ⟨rfl, rfl, rfl, rfl, rfl, rfl⟩ := hcs
  exact ⟨s, fa, ea, ta, fc, ec, tc, ls, rfl, hin, ht, htc, hwf⟩
theorem openW_ticksN {fuel : Nat} {v : Value} {x : DataW H × List MemPlace} (h : DataW.trod enc Tryz.prog w base spare held fuel 33 [v] = some x) :
    ∃ (a : Option Addr) (c : Nat) (ls : List (List (List Int))), v = .slice a ls.length c ∧ TksN w a ls ∧ ls.length ≤ c ∧ ∀ x ∈ ls, ∀ u ∈ x, ∀ j, j < 6 → fld u j < 9223372036854775808 := by
  rcases open_slice Tryz.underlying33 h with ⟨hc, _⟩ | ⟨a, len, cap, m, n, D, Pl, hc, _, hl, _, hm, _, hx⟩
  · simp only [List.cons.injEq, and_true] at hc
    exact ⟨none, 0, [], hc, Or.inl rfl, Nat.le_refl _, fun x hx => absurd hx List.not_mem_nil⟩
  · simp only [List.cons.injEq, and_true] at hc
    have hlm : len ≤ m := by rw [hm]; split <;> omega
    have hcell : ∀ i, i < len → ∃ (rs : List (List Int)) (la : Option Addr) (lc : Nat), w.cell? (a.add i) = some (.slice la rs.length lc) ∧ Recs w la 6 rs ∧ ∀ i, i < rs.length → ∀ j, j < 6 → (Lit.int .i64 (fld (rec rs i) j)).wf = true := by
      intro i hi
      obtain ⟨cs', h1, h2⟩ := hx i (by omega)
      rw [ords_cellsOf, Nat.mul_one] at h1
      obtain ⟨h3, h4⟩ := cells_at h1
      obtain ⟨v0, rfl⟩ := one_of h3
      obtain ⟨la, lc, rs, rfl, hr, _, _, hwf⟩ := open_recs (k := 6) (by omega) Tryz.underlying78 Tryz.underlying102 ord_cellsOf (by kernel_rfl) h2
      have := h4 0 (by omega)
      rw [Addr.add_add, Nat.add_zero] at this
      exact ⟨rs, la, lc, this, hr, hwf⟩
    by_cases h0 : len = 0
    · subst h0
      exact ⟨some a, cap, [], hc, Or.inl rfl, Nat.zero_le _, fun x hx => absurd hx List.not_mem_nil⟩
    · obtain ⟨b, off, spot⟩ := a
      obtain ⟨rs0, la0, lc0, hz0, _, _⟩ := hcell 0 (by omega)
      have hspot : spot = none := by simpa [Addr.add] using World.cell?_spot hz0
      subst hspot
      have hall : ∀ i, ∃ rs : List (List Int), i < len → ∃ (la : Option Addr) (lc : Nat), w.cell? ⟨b, off + i, none⟩ = some (.slice la rs.length lc) ∧ Recs w la 6 rs ∧ ∀ i, i < rs.length → ∀ j, j < 6 → (Lit.int .i64 (fld (rec rs i) j)).wf = true := by
        intro i
        by_cases hi : i < len
        · obtain ⟨rs, la, lc, h1, h2, h3⟩ := hcell i hi
          rw [add_plain] at h1
          exact ⟨rs, fun _ => ⟨la, lc, h1, h2, h3⟩⟩
        · exact ⟨[], fun h => absurd h hi⟩
      obtain ⟨f, hf⟩ := Classical.axiomOfChoice hall
      have hget : ∀ i, i < len → ((List.range len).map f).getD i [] = f i := fun i hi => by simp [List.getD_eq_getElem?_getD, hi]
      refine ⟨some ⟨b, off, none⟩, cap, (List.range len).map f, ?_, Or.inr ⟨b, off, rfl, fun i hi => ?_⟩, ?_, ?_⟩
      · simp only [List.length_map, List.length_range]
        exact hc
      · simp only [List.length_map, List.length_range] at hi
        rw [hget i hi]
        obtain ⟨la, lc, h1, h2, _⟩ := hf i hi
        exact ⟨la, lc, h1, h2⟩
      · simp only [List.length_map, List.length_range]
        exact hl
      · intro x hx u hu j hj
        obtain ⟨i, hi, rfl⟩ := List.mem_map.1 hx
        obtain ⟨_, _, _, _, h3⟩ := hf i (List.mem_range.1 hi)
        obtain ⟨q, hq, rfl⟩ := List.getElem_of_mem hu
        have h4 := h3 q hq j hj
        rw [rec_at hq] at h4
        have h5 := (bounds_i64 h4).2
        omega
set_option maxRecDepth 100000 in
theorem openW_reel {fuel : Nat} {cs : Array Value} {x : DataW H × List MemPlace} (h : DataW.trod enc Tryz.prog w base spare held fuel 35 cs.toList = some x) :
    ∃ (s : St) (ua ta : Option Addr) (uc tc : Nat) (ls : List (List (List Int))), cs = reelC s.t s.g0 s.g1 s.nx (.slice ua s.es.length uc) (.slice ta ls.length tc) ∧ InW w s ua uc ∧ TksN w ta ls ∧ ls.length ≤ tc ∧ ∀ x ∈ ls, ∀ u ∈ x, ∀ j, j < 6 → fld u j < 9223372036854775808 := by
  obtain ⟨xs, m, _, _, hl, hlen, hf⟩ := DataW.trod_struct Tryz.underlying35 h
  rw [reel_cellsOf] at hl
  obtain ⟨l⟩ := cs
  simp only at hl hf
  obtain ⟨c0, c1, c2, c3, c4, c5, rfl⟩ := six_of' hl
  have hget : ∀ i, i < 2 → ∃ y, xs[i]? = some y := fun i hi => ⟨xs[i]'(by rw [hlen]; exact hi), List.getElem?_eq_getElem _⟩
  obtain ⟨y0, e0⟩ := hget 0 (by omega)
  obtain ⟨y1, e1⟩ := hget 1 (by omega)
  have h0 : DataW.trod enc Tryz.prog w base spare held m 32 (List.take (Tryz.prog.cellsOf 32) [c0, c1, c2, c3, c4, c5]) = some y0 := (hf 0 _ rfl).trans e0
  have h1 : DataW.trod enc Tryz.prog w base spare held m 33 (List.take (Tryz.prog.cellsOf 33) [c5]) = some y1 := (hf 1 _ rfl).trans e1
  rw [newer_cellsOf] at h0
  rw [ticksN_cellsOf] at h1
  have h0' : DataW.trod enc Tryz.prog w base spare held m 32 (#[c0, c1, c2, c3, c4] : Array Value).toList = some y0 := h0
  have h1' : DataW.trod enc Tryz.prog w base spare held m 33 [c5] = some y1 := h1
  obtain ⟨s, ua, uc, hcs, hin⟩ := open_newer h0'
  obtain ⟨ta, tc, ls, rfl, ht, htc, hwf⟩ := openW_ticksN h1'
  simp only [Array.mk.injEq, List.cons.injEq, and_true] at hcs
  obtain ⟨rfl, rfl, rfl, rfl, rfl⟩ := hcs
  exact ⟨s, ua, ta, uc, tc, ls, rfl, hin, ht, htc, hwf⟩
end
end Go.Proofs.YtcbalhicaipmlaaGreat
