/- Package elder of the program: records of ten numbers; who is at a place, who has a number. -/
import Derived.Test.YtakmjfchhchngaaRules2
import Derived.Test.YtakmjfchhchngaaRefA
import Derived.Deep.LoopGhost
namespace Go.Proofs.Ytakmjfchhchngaa
open Go.RowKit

/- One of the elder game: ten numbers. -/
abbrev entV (u : List Int) : Value := .agg #[.int .i64 (fld u 0), .int .i64 (fld u 1), .int .i64 (fld u 2), .int .i64 (fld u 3), .int .i64 (fld u 4), .int .i64 (fld u 5), .int .i64 (fld u 6), .int .i64 (fld u 7), .int .i64 (fld u 8), .int .i64 (fld u 9)]
abbrev entC (u : List Int) : Array Value := #[.int .i64 (fld u 0), .int .i64 (fld u 1), .int .i64 (fld u 2), .int .i64 (fld u 3), .int .i64 (fld u 4), .int .i64 (fld u 5), .int .i64 (fld u 6), .int .i64 (fld u 7), .int .i64 (fld u 8), .int .i64 (fld u 9)]

theorem Recs.below {w W : World} {a : Option Addr} {k : Nat} {rs : List (List Int)} (h : Recs w a k rs) (hb : Below w.heap.size w W) : Recs W a k rs := by
  rcases h with h | ⟨b, o, e, hc⟩
  · exact Or.inl h
  · exact Or.inr ⟨b, o, e, fun i hi j hj => (hb.cell (World.block_lt_of_cell? w _ (hc i hi j hj))).trans (hc i hi j hj)⟩
theorem Nums.below {w W : World} {a : Option Addr} {zs : List Int} (h : Nums w a zs) (hb : Below w.heap.size w W) : Nums W a zs := by
  rcases h with h | ⟨b, o, e, hc⟩
  · exact Or.inl h
  · exact Or.inr ⟨b, o, e, fun i hi => (hb.cell (World.block_lt_of_cell? w _ (hc i hi))).trans (hc i hi)⟩
theorem Recs.ten {w : World} {a : Option Addr} {es : List (List Int)} (h : Recs w a 10 es) {i : Nat} (hi : i < es.length) :
    ∃ b o, a = some ⟨b, o, none⟩ ∧ b < w.heap.size ∧ w.cell? ⟨b, o + i * 10, none⟩ = some (.int .i64 (fld (rec es i) 0)) ∧ w.cell? ⟨b, o + i * 10 + 1, none⟩ = some (.int .i64 (fld (rec es i) 1)) ∧ w.cell? ⟨b, o + i * 10 + 2, none⟩ = some (.int .i64 (fld (rec es i) 2)) ∧ w.cell? ⟨b, o + i * 10 + 3, none⟩ = some (.int .i64 (fld (rec es i) 3)) ∧ w.cell? ⟨b, o + i * 10 + 4, none⟩ = some (.int .i64 (fld (rec es i) 4)) ∧ w.cell? ⟨b, o + i * 10 + 5, none⟩ = some (.int .i64 (fld (rec es i) 5)) ∧ w.cell? ⟨b, o + i * 10 + 6, none⟩ = some (.int .i64 (fld (rec es i) 6)) ∧ w.cell? ⟨b, o + i * 10 + 7, none⟩ = some (.int .i64 (fld (rec es i) 7)) ∧ w.cell? ⟨b, o + i * 10 + 8, none⟩ = some (.int .i64 (fld (rec es i) 8)) ∧ w.cell? ⟨b, o + i * 10 + 9, none⟩ = some (.int .i64 (fld (rec es i) 9)) := by
  obtain ⟨b, o, e, hc⟩ := h.at hi
  exact ⟨b, o, e, World.block_lt_of_cell? w _ (hc 0 (by omega)), hc 0 (by omega), hc 1 (by omega), hc 2 (by omega), hc 3 (by omega), hc 4 (by omega), hc 5 (by omega), hc 6 (by omega), hc 7 (by omega), hc 8 (by omega), hc 9 (by omega)⟩

/- The first record of which p holds: its place, or -1. -/
def idxZ (p : List Int → Bool) (rs : List (List Int)) : Int :=
  match rs.findIdx? p with
  | some i => i
  | none => -1
theorem rec_at {rs : List (List Int)} {i : Nat} (h : i < rs.length) : rec rs i = rs[i] := by simp [rec, List.getD_eq_getElem?_getD, h]
theorem idxZ_some {p : List Int → Bool} {rs : List (List Int)} {k : Nat} (hk : k < rs.length) (hn : ∀ i, i < k → p (rec rs i) = false) (he : p (rec rs k) = true) : idxZ p rs = k := by
  have h : rs.findIdx? p = some k := by
    rw [List.findIdx?_eq_some_iff_getElem]
    refine ⟨hk, by rw [← rec_at hk]; exact he, fun j hj => ?_⟩
    have h2 := hn j hj
    rw [rec_at (by omega)] at h2
    simp [h2]
  unfold idxZ
  rw [h]
theorem idxZ_none {p : List Int → Bool} {rs : List (List Int)} (hn : ∀ i, i < rs.length → p (rec rs i) = false) : idxZ p rs = -1 := by
  have h : rs.findIdx? p = none := by
    rw [List.findIdx?_eq_none_iff]
    intro r hr
    obtain ⟨i, hi, rfl⟩ := List.mem_iff_getElem.1 hr
    have h2 := hn i hi
    rw [rec_at hi] at h2
    exact h2
  unfold idxZ
  rw [h]
theorem idxZ_bd (p : List Int → Bool) (rs : List (List Int)) : -1 ≤ idxZ p rs ∧ idxZ p rs < rs.length := by
  unfold idxZ
  cases h : rs.findIdx? p with
  | none => simp only; omega
  | some i =>
    rw [List.findIdx?_eq_some_iff_getElem] at h
    obtain ⟨hi, _⟩ := h
    simp only; omega
theorem whoZ_idx (id : Int) (rs : List (List Int)) : whoZ id rs = idxZ (fun r => fld r 0 == id) rs := rfl
theorem idxZ_at {p : List Int → Bool} {rs : List (List Int)} (h : 0 ≤ idxZ p rs) : (idxZ p rs).toNat < rs.length ∧ p (rec rs (idxZ p rs).toNat) = true := by
  unfold idxZ at h ⊢
  cases hf : rs.findIdx? p with
  | none => rw [hf] at h; simp at h
  | some i =>
    rw [List.findIdx?_eq_some_iff_getElem] at hf
    obtain ⟨hi, hp, _⟩ := hf
    refine ⟨by simpa using hi, ?_⟩
    simpa [rec_at hi] using hp

set_option maxHeartbeats 1000000 in
theorem within_calls (n a b : Int) (w : World) :
    Calls Try.prog 116 #[.int .i64 n, .int .i64 a, .int .i64 b] w fun e w' => e = .returned (.bool (decide (a ≤ n ∧ n ≤ b))) ∧ w' = w := by
  by_cases h1 : a ≤ n
  · by_cases h2 : n ≤ b
    · rw [decide_eq_true ⟨h1, h2⟩]
      go_enter Try.func116, Try.ntmps116
      go_wp2
      go_ret
      exact ⟨rfl, rfl⟩
    · rw [decide_eq_false (fun h => h2 h.2)]
      go_enter Try.func116, Try.ntmps116
      go_wp2
      go_ret
      exact ⟨rfl, rfl⟩
  · rw [decide_eq_false (fun h => h1 h.1)]
    go_enter Try.func116, Try.ntmps116
    go_wp2
    go_ret
    exact ⟨rfl, rfl⟩

set_option maxHeartbeats 1000000 in
theorem rule_elder_calls (u : List Int) (w : World) :
    Calls Try.prog 102 #[entV u] w fun e w' => e = .returned (.agg #[.int .i64 (Pl.eCost (fld u 2)), .int .i64 (Pl.eHP (fld u 2)), .int .i64 (Pl.eSpeed (fld u 2)), .int .i64 (Pl.eHarm (fld u 2)), .int .i64 (Pl.eRange (fld u 2)), .int .i64 (Pl.eLoad (fld u 2))]) ∧ Below w.heap.size w w' := by
  go_enter Try.func102, Try.ntmps102
  go_wp2_with fail
  refine (elder_calls (fld u 2) _).mono ?_
  rintro e w' ⟨rfl, rfl⟩
  go_wp2
  exact bodyPost_ret (v := .agg #[.int .i64 (Pl.eCost (fld u 2)), .int .i64 (Pl.eHP (fld u 2)), .int .i64 (Pl.eSpeed (fld u 2)), .int .i64 (Pl.eHarm (fld u 2)), .int .i64 (Pl.eRange (fld u 2)), .int .i64 (Pl.eLoad (fld u 2))]) (by simp [results, Try.results102, go_sem]) rfl ⟨rfl, by go_grown⟩

end Go.Proofs.Ytakmjfchhchngaa
