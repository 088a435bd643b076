/- What a tick leaves, as TopElder asks it. -/
import Derived.Test.YtakmjfchhchngaaSt
namespace Go.Proofs.Ytakmjfchhchngaa
open Go.RowKit Go.Maps

structure Left4 (s T : St) : Prop where
  right : checkE T.t T.g0 T.g1 T.nx T.free T.es = 0
  tick : T.t = s.t + 1
  len : T.es.length ≤ s.es.length + T.born.length
  small : T.es.length ≤ 20 ∧ T.born.length ≤ 8
  some : ∀ e ∈ T.es, fld e 0 ∈ T.born ∨ ∃ o ∈ s.es, fld o 0 = fld e 0
  same : ∀ e ∈ T.es, ∀ o ∈ s.es, fld o 0 = fld e 0 → fld e 0 ∉ T.born ∧ fld o 2 = fld e 2 ∧ fld o 1 = fld e 1 ∧ fld e 5 ≤ fld o 5 ∧ Pl.farZ (fld o 3) (fld o 4) (fld e 3) (fld e 4) ≤ 1
  on : ∀ e ∈ T.es, OnU e
  wf : ∀ i, i < T.free.length → (Lit.int .i64 (fld T.free i)).wf = true

theorem left4 {s : St} (h : Inv s) (hb : s.born = []) (ht : s.t ≠ 60) (l : List (List Int)) (h8 : l.length ≤ 8) : Left4 s (stepS s l) := by
  obtain ⟨hS, hg⟩ := cmds_ok (s0 := s) l s h (grew_refl s hb)
  have hst : (cmdsS s l).t = s.t := cmdsS_t l s
  have ht1 := h.t1
  have hE := inv_end hS (by rw [hst]; omega) (wasF (idsE s.es))
  obtain ⟨e1, e2, e3⟩ := end_each hS (wasF (idsE s.es))
  have hbo : (cmdsS s l).born.length ≤ 8 := by
    have := cmds_born s l l.length
    rw [List.take_length, hb] at this
    simp only [List.length_nil] at this
    omega
  refine ⟨check_of_inv hE, ?_, ?_, ⟨hE.el, ?_⟩, ?_, ?_, ?_, ?_⟩
  · show (cmdsS s l).t + 1 = _
    rw [hst]
  · have := hg.len
    show (endS (cmdsS s l) _).es.length ≤ s.es.length + (endS (cmdsS s l) _).born.length
    rw [e1]
    omega
  · show (endS (cmdsS s l) _).born.length ≤ 8
    rw [e1]
    exact hbo
  · intro e he
    obtain ⟨u, hu, f0, _⟩ := e3 e he
    show _ ∈ (endS (cmdsS s l) _).born ∨ _
    rw [e1]
    rcases hg.each u hu with hn | ⟨o, ho, hj⟩
    · exact Or.inl (by rw [f0]; exact hn)
    · exact Or.inr ⟨o, ho, by rw [f0, hj 0 (by omega)]⟩
  · intro e he o ho hoe
    obtain ⟨u, hu, f0, f1, f2, f5, ff⟩ := e3 e he
    have hoid : fld o 0 ∈ idsE s.es := by
      unfold idsE
      exact List.mem_map.2 ⟨o, ho, rfl⟩
    have hnb : fld u 0 ∉ (cmdsS s l).born := fun hx => hg.new _ hx (by rw [← f0, ← hoe]; exact hoid)
    show fld e 0 ∉ (endS (cmdsS s l) _).born ∧ _
    rw [e1]
    refine ⟨by rw [f0]; exact hnb, ?_⟩
    rcases hg.each u hu with hn | ⟨o', ho', hj⟩
    · exact absurd hn hnb
    · have hoo : o = o' := by
        obtain ⟨a, ha, rfl⟩ := List.mem_iff_getElem.1 ho
        obtain ⟨b, hb', rfl⟩ := List.mem_iff_getElem.1 ho'
        have hid : fld (rec s.es a) 0 = fld (rec s.es b) 0 := by
          rw [rec_at ha, rec_at hb', hoe, f0, hj 0 (by omega)]
        have := invM_uniq h.mem a b ha hb' hid
        subst this
        rfl
      subst hoo
      refine ⟨?_, ?_, ?_, ?_⟩
      · rw [f2, hj 2 (by omega)]
      · rw [f1, hj 1 (by omega)]
      · rw [← hj 5 (by omega)]
        exact f5
      · rw [← hj 3 (by omega), ← hj 4 (by omega)]
        exact ff
  · exact fun e he => hE.mem.on he
  · intro i hi
    have hm : fld (stepS s l).free i ∈ (stepS s l).free := by
      unfold fld
      rw [List.getD_eq_getElem?_getD, List.getElem?_eq_getElem hi]
      exact List.getElem_mem hi
    have := hE.known (List.mem_append_right _ hm)
    have hn := hE.n1
    exact wf64 (by omega) (by omega)
end Go.Proofs.Ytakmjfchhchngaa
