/- A tick under way: a row is moved within itself. -/
import Derived.Test.YtakmjfchhchngaaGe
import Derived.Laws.IdiomCopy
namespace Go.Proofs.Ytakmjfchhchngaa
open Go.RowKit Go.Maps

theorem flat_take (k : Nat) (es : List (List Int)) (d : Nat) : (flat k es).take (d * k) = flat k (es.take d) := by
  induction es generalizing d with
  | nil => simp [flat]
  | cons u es ih =>
    cases d with
    | zero => simp [flat]
    | succ d =>
      rw [flat_cons, List.take_succ_cons, flat_cons, ← ih d, List.take_append, recL_length]
      have e1 : (recL k u).take ((d + 1) * k) = recL k u := List.take_of_length_le (by rw [recL_length, Nat.succ_mul]; omega)
      have e2 : (d + 1) * k - k = d * k := by rw [Nat.succ_mul]; omega
      rw [e1, e2]
theorem flat_drop (k : Nat) (es : List (List Int)) (d : Nat) : (flat k es).drop (d * k) = flat k (es.drop d) := by
  induction es generalizing d with
  | nil => simp [flat]
  | cons u es ih =>
    cases d with
    | zero => simp [flat]
    | succ d =>
      rw [flat_cons, List.drop_succ_cons, ← ih d, List.drop_append, recL_length]
      have e1 : (recL k u).drop ((d + 1) * k) = [] := List.drop_of_length_le (by rw [recL_length, Nat.succ_mul]; omega)
      have e2 : (d + 1) * k - k = d * k := by rw [Nat.succ_mul]; omega
      rw [e1, e2, List.nil_append]

theorem copyRun (w : World) (base g c : Nat) (ty : TypeId) (es : List (List Int)) (d q : Nat) (h : Row base w (.slice (some ⟨g, 0, none⟩) es.length c) es) (da sa : Option Addr) (dl dc sl sc m : Nat)
    (hd : d + m ≤ es.length) (hq : q + m ≤ es.length) (hm : m = Nat.min sl dl) (hda : 0 < m → da = some ⟨g, d * 10, none⟩ ∧ sa = some ⟨g, q * 10, none⟩) :
    ∃ w', (Builtin.copy_ #[58, 58] ty #[.slice da dl dc, .slice sa sl sc]).run Try.prog w = .ok (goInt m) w' ∧ Row base w' (.slice (some ⟨g, 0, none⟩) es.length c) (es.take d ++ (es.drop q).take m ++ es.drop (d + m)) ∧ w.grownBy w' (some g) := by
  obtain ⟨i0, hi, hz0, hz1, hz2⟩ := info_parts info_ent
  have hu := Try.underlying58
  by_cases h0 : m = 0
  · refine ⟨w, ?_, ?_, ⟨rfl, rfl, rfl, Nat.le_refl _, fun _ _ _ => rfl⟩⟩
    · have hl : ∀ (x : Addr), (loadCells x 0).run Try.prog w = .ok #[] w := fun x => by simpa using run_loadCells_list (P := Try.prog) w x [] (by simp)
      rw [h0] at hm ⊢
      have hm' := hm.symm
      cases da <;> cases sa <;> simp [Builtin.copy_, run_underlying hu, Builtin.lenOf, Builtin.firstCells, sizeOf, typeInfo, hi, hm', storeCells, hl]
    · rw [h0]
      simp only [List.take_zero, List.append_nil, Nat.add_zero, List.take_append_drop]
      exact h
  · obtain ⟨rfl, rfl⟩ := hda (by omega)
    rcases h.2 with ⟨h', _⟩ | ⟨g', cap', cur, h', hb, hg, hnc, hcm, hcs, htake⟩
    · cases h'
    · cases h'
      have hl1 : (flat 10 ((es.drop q).take m)).length = m * 10 := by rw [flat_length, List.length_take, List.length_drop, Nat.min_eq_left (by omega)]
      have hsrc : ∀ j v, (flat 10 ((es.drop q).take m))[j]? = some v → w.cell? ((⟨g, q * 10, none⟩ : Addr).add j) = some v := by
        intro j v hv
        have hj : j < m * 10 := by
          rw [← hl1]
          exact (List.getElem?_eq_some_iff.1 hv).1
        rw [add_off, World.ownsRow.cellAt h _ (by omega), ← hv, ← flat_take, ← flat_drop, List.getElem?_take, if_pos hj, List.getElem?_drop]
      have hl := run_loadCells_list (P := Try.prog) w ⟨g, q * 10, none⟩ (flat 10 ((es.drop q).take m)) hsrc
      have hst := run_storeCells_at Try.prog g (d * 10) 86 (flat 10 ((es.drop q).take m)) 0 cur w hg (by rw [hl1, hcs]; omega) (flat_one _ _)
      rw [hl1] at hl hst
      simp only [Nat.add_zero, List.append_assoc] at hst
      have hle : (es.take d ++ (es.drop q).take m ++ es.drop (d + m)).length = es.length := by
        simp only [List.length_append, List.length_take, List.length_drop]
        omega
      refine ⟨w.setRow g (cur.toList.take (d * 10) ++ (flat 10 ((es.drop q).take m) ++ cur.toList.drop (d * 10 + m * 10))).toArray, ?_, ?_, ?_⟩
      · have e : Nat.min sl dl = m := hm.symm
        simp [Builtin.copy_, run_underlying hu, Builtin.lenOf, Builtin.firstCells, sizeOf, typeInfo, hi, hz1, e, hl, hst]
      · have hX : (flat 10 es).length = es.length * 10 := flat_length 10 es
        have hcur : cur.toList = flat 10 es ++ cur.toList.drop (es.length * 10) := by rw [← htake, List.take_append_drop]
        generalize cur.toList.drop (es.length * 10) = Y at hcur
        have e1 : cur.toList.take (d * 10) = flat 10 (es.take d) := by rw [hcur, List.take_append_of_le_length (by rw [hX]; omega), flat_take]
        have e2 : cur.toList.drop (d * 10 + m * 10) = flat 10 (es.drop (d + m)) ++ Y := by
          rw [hcur, ← Nat.add_mul, List.drop_append_of_le_length (by rw [hX]; omega), flat_drop]
        unfold Row
        rw [hle]
        refine ⟨by rw [flat_length, hle], .inr ⟨g, c, _, rfl, hb, setRow_heap w g cur _ _ _ hg, hnc, hcm, ?_, ?_⟩⟩
        · have hcl : cur.toList.length = c * 10 := by rw [Array.length_toList, hcs]
          simp only [List.size_toArray, List.length_append, List.length_take, List.length_drop, hl1, hcl]
          omega
        · rw [e1, e2]
          have e3 : (flat 10 (es.take d) ++ (flat 10 ((es.drop q).take m) ++ (flat 10 (es.drop (d + m)) ++ Y))) = flat 10 (es.take d ++ (es.drop q).take m ++ es.drop (d + m)) ++ Y := by simp [flat_append]
          rw [e3]
          exact List.take_left' (by rw [flat_length, hle])
      · exact ⟨rfl, rfl, rfl, by simp [World.setRow], fun k _ hk => setRow_other w g k _ (fun e => hk (by rw [e]))⟩
end Go.Proofs.Ytakmjfchhchngaa
