/- What a tick leaves, as TopElder asks it. -/
import Derived.Test.YtgiieepfhohmhabTSt
import Derived.Test.YtgiieepfhohmhabTCrc
namespace Go.Proofs.Ytgiieepfhohmhab
open Go.RowKit Go.Maps
structure Left4 (s T : St) : Prop where
  right : checkE T.t T.g0 T.g1 T.nx T.free T.es = 0
  tick : T.t = s.t + 1
  len : T.es.length ≤ s.es.length + T.born.length
  small : T.es.length ≤ 20 ∧ T.born.length ≤ 8
  some : ∀ e ∈ T.es, fld e 0 ∈ T.born ∨ ∃ o ∈ s.es, fld o 0 = fld e 0
  same : ∀ e ∈ T.es, ∀ o ∈ s.es, fld o 0 = fld e 0 → fld e 0 ∉ T.born ∧ fld o 2 = fld e 2 ∧ fld o 1 = fld e 1 ∧ fld e 5 ≤ fld o 5 ∧ Pl.farZ (fld o 3) (fld o 4) (fld e 3) (fld e 4) ≤ 1
  on : ∀ e ∈ T.es, OnU e
  wf : ∀ i, i < T.free.length → (Lit.int .i64 (fld T.free i)).wf = true
theorem left4 {s : St} (h : Inv s) (hb : s.born = []) (ht : s.t ≠ 60) (l : List (List Int)) (h8 : l.length ≤ 8) : Left4 s (stepS s l) := by
  obtain ⟨hS, hg⟩ := cmds_ok (s0 := s) l s h (grew_refl s hb)
  have hst : (cmdsS s l).t = s.t := cmdsS_t l s
  have ht1 := h.t1
  have hE := inv_end hS (by rw [hst]; omega) (wasF (idsE s.es))
  obtain ⟨e1, e2, e3⟩ := end_each hS (wasF (idsE s.es))
  have hbo : (cmdsS s l).born.length ≤ 8 := by
    have := cmds_born s l l.length
    rw [List.take_length, hb] at this
    simp only [List.length_nil] at this
    omega
  refine ⟨check_of_inv hE, ?_, ?_, ⟨hE.el, ?_⟩, ?_, ?_, ?_, ?_⟩
  · show (cmdsS s l).t + 1 = _
    rw [hst]
  · have := hg.len
    show (endS (cmdsS s l) _).es.length ≤ s.es.length + (endS (cmdsS s l) _).born.length
    rw [e1]
    omega
  · show (endS (cmdsS s l) _).born.length ≤ 8
    rw [e1]
    exact hbo
  · intro e he
    obtain ⟨u, hu, f0, _⟩ := e3 e he
    show _ ∈ (endS (cmdsS s l) _).born ∨ _
    rw [e1]
    rcases hg.each u hu with hn | ⟨o, ho, hj⟩
    · exact Or.inl (by rw [f0]; exact hn)
    · exact Or.inr ⟨o, ho, by rw [f0, hj 0 (by omega)]⟩
  · intro e he o ho hoe
    obtain ⟨u, hu, f0, f1, f2, f5, ff⟩ := e3 e he
    have hoid : fld o 0 ∈ idsE s.es := by
      unfold idsE
      exact List.mem_map.2 ⟨o, ho, rfl⟩
    have hnb : fld u 0 ∉ (cmdsS s l).born := fun hx => hg.new _ hx (by rw [← f0, ← hoe]; exact hoid)
    show fld e 0 ∉ (endS (cmdsS s l) _).born ∧ _
    rw [e1]
    refine ⟨by rw [f0]; exact hnb, ?_⟩
    rcases hg.each u hu with hn | ⟨o', ho', hj⟩
    · exact absurd hn hnb
    · have hoo : o = o' := by
        obtain ⟨a, ha, rfl⟩ := List.mem_iff_getElem.1 ho
        obtain ⟨b, hb', rfl⟩ := List.mem_iff_getElem.1 ho'
        have hid : fld (rec s.es a) 0 = fld (rec s.es b) 0 := by
          rw [rec_at ha, rec_at hb', hoe, f0, hj 0 (by omega)]
        have := invM_uniq h.mem a b ha hb' hid
        subst this
        rfl
      subst hoo
      refine ⟨?_, ?_, ?_, ?_⟩
      · rw [f2, hj 2 (by omega)]
      · rw [f1, hj 1 (by omega)]
      · rw [← hj 5 (by omega)]
        exact f5
      · rw [← hj 3 (by omega), ← hj 4 (by omega)]
        exact ff
  · exact fun e he => hE.mem.on he
  · intro i hi
    have hm : fld (stepS s l).free i ∈ (stepS s l).free := by
      unfold fld
      rw [List.getD_eq_getElem?_getD, List.getElem?_eq_getElem hi]
      exact List.getElem_mem hi
    have := hE.known (List.mem_append_right _ hm)
    have hn := hE.n1
    exact wf64 (by omega) (by omega)
end Go.Proofs.Ytgiieepfhohmhab
namespace Go.Proofs.Ytgiieepfhohmhab
open Go.RowKit Go.Maps
def zeroS : St := ⟨0, 0, 0, 0, [], [], []⟩
def outC (s : St) (l : List (List Int)) : Nat := if checkE s.t s.g0 s.g1 s.nx s.free s.es = 0 then (if 8 < l.length ∨ s.t = 60 then 2 else 0) else checkE s.t s.g0 s.g1 s.nx s.free s.es
def outS (s : St) (l : List (List Int)) : St := if checkE s.t s.g0 s.g1 s.nx s.free s.es = 0 ∧ ¬ (8 < l.length ∨ s.t = 60) then stepS s l else zeroS
def Ans (f : Nat → Value) (s : St) (l : List (List Int)) (w : World) (e : Ending) (w' : World) : Prop :=
  ∃ fv ev bv, e = .returned (.tuple #[elderV (outS s l).t (outS s l).g0 (outS s l).g1 (outS s l).nx fv ev, bv, f (outC s l)]) ∧ Row w.heap.size w' ev (outS s l).es ∧ NRow w.heap.size w' fv (outS s l).free ∧ NRow w.heap.size w' bv (outS s l).born ∧ Below w.heap.size w w'
theorem ans_zero {f : Nat → Value} {s : St} {l : List (List Int)} {w : World} {e : Ending} {w' : World} {c : Nat} (hc : outC s l = c) (hs : outS s l = zeroS) (he : e = .returned (.tuple #[zeroE, .slice none 0 0, f c])) (hb : Below w.heap.size w w') : Ans f s l w e w' := by
  unfold Ans
  rw [hc, hs]
  exact ⟨.slice none 0 0, .slice none 0 0, .slice none 0 0, he, World.ownsRow_nil _ _ _ _, World.ownsRow_nil _ _ _ _, World.ownsRow_nil _ _ _ _, hb⟩
theorem step_all (s : St) (fa ea la : Option Addr) (fc ec lc : Nat) (l : List (List Int)) (w : World) (h : InE w s fa ea fc ec) (hl : Recs w la 7 l) :
    Calls Try.prog 28 #[elderV s.t s.g0 s.g1 s.nx (.slice fa s.free.length fc) (.slice ea s.es.length ec), .slice la l.length lc] w (Ans errV s l w) := by
  by_cases hc : checkE s.t s.g0 s.g1 s.nx s.free s.es = 0
  · by_cases hm : 8 < l.length ∨ s.t = 60
    · refine (step_many s fa ea la fc ec lc l w h hc hm).mono fun e w' ⟨he, hb⟩ => ans_zero (c := 2) ?_ ?_ he hb
      · unfold outC; rw [if_pos hc, if_pos hm]
      · unfold outS; rw [if_neg (fun x => x.2 hm)]
    · have e1 : outC s l = 0 := by unfold outC; rw [if_pos hc, if_neg hm]
      have e2 : outS s l = stepS s l := by unfold outS; rw [if_pos ⟨hc, hm⟩]
      refine (step_good s fa ea la fc ec lc l w h hl hc (by omega) (fun e => hm (Or.inr e))).mono fun e w' ⟨fv, ev, bv, he, h1, h2, h3, _, hb⟩ => ?_
      unfold Ans
      rw [e1, e2]
      exact ⟨fv, ev, bv, he, h1, h2, h3, hb⟩
  · refine (step_check s fa ea la fc ec lc l w h hc).mono fun e w' ⟨he, hb⟩ => ans_zero ?_ ?_ he hb
    · unfold outC; rw [if_neg hc]
    · unfold outS; rw [if_neg (fun x => hc x.1)]
def nextS (s : St) (l : List (List Int)) : St := { outS s l with born := [] }
def playO (s : St) : List (List (List Int)) → Nat × St
  | [] => (0, s)
  | l :: ls => if outC s l = 0 then playO (nextS s l) ls else (outC s l, zeroS)
def playC (s : St) (ls : List (List (List Int))) (n : Int) : Nat × St :=
  if n < 0 ∨ (ls.length : Int) < n then (1, zeroS) else if checkE s.t s.g0 s.g1 s.nx s.free s.es = 0 then playO s (ls.take n.toNat) else (checkE s.t s.g0 s.g1 s.nx s.free s.es, zeroS)
theorem next_inv {s : St} {l : List (List Int)} (h : Inv s) (hb : s.born = []) (hc : outC s l = 0) : Inv (nextS s l) ∧ (nextS s l).born = [] := by
  have hk := check_of_inv h
  unfold outC at hc
  rw [if_pos hk] at hc
  have hm : ¬ (8 < l.length ∨ s.t = 60) := fun x => by rw [if_pos x] at hc; omega
  have e : nextS s l = { stepS s l with born := [] } := by unfold nextS outS; rw [if_pos ⟨hk, hm⟩]
  rw [e]
  refine ⟨?_, rfl⟩
  have h1 := inv_of_check (left4 h hb (fun e => hm (Or.inr e)) l (by omega)).right
  exact ⟨h1.t0, h1.t1, h1.n0, h1.n1, h1.a0, h1.a1, h1.el, h1.fl, h1.bd, h1.ow, h1.pl, h1.tg, h1.up, h1.lt, h1.ap, h1.am, h1.sm, h1.fr⟩
theorem own_nil {base : Nat} {w : World} {e : TypeId} {size n c : Nat} {m : Nat} {xs : List Value} {a : Option Addr} (h : w.ownsRow base e size (.slice a n c) m xs) : a = none → c = 0 := by
  rcases h.2 with ⟨h', _⟩ | ⟨g', cap', cur, h', _⟩
  · intro _; cases h'; rfl
  · intro e; cases h'; cases e
def Off (B : Nat) (s : St) (fa ea : Option Addr) : Prop := (s.free = [] ∨ ∀ b o, fa = some ⟨b, o, none⟩ → b ≠ B) ∧ (s.es = [] ∨ ∀ b o, ea = some ⟨b, o, none⟩ → b ≠ B)
theorem InE.six {w : World} {s : St} {fa ea : Option Addr} {fc ec B : Nat} {a0 a1 a2 a3 a4 a5 : Value} (h : InE w s fa ea fc ec) (ho : Off B s fa ea) : InE (setSix w B a0 a1 a2 a3 a4 a5) s fa ea fc ec := by
  refine ⟨h.fn, h.en, h.cap, ?_, ?_, h.wf, h.born⟩
  · rcases h.rows with e | ⟨b, o, e, hc⟩
    · exact Or.inl e
    · rcases ho.2 with e2 | hb
      · exact Or.inl e2
      · refine Or.inr ⟨b, o, e, fun i hi j hj => ?_⟩
        rw [← hc i hi j hj]
        unfold World.cell?
        simp only [heap_six (hb b o e)]
  · rcases h.nums with e | ⟨b, o, e, hc⟩
    · exact Or.inl e
    · rcases ho.1 with e2 | hb
      · exact Or.inl e2
      · refine Or.inr ⟨b, o, e, fun i hi => ?_⟩
        rw [← hc i hi]
        unfold World.cell?
        simp only [heap_six (hb b o e)]
theorem inE_rows {base : Nat} {w : World} {s : St} {fv ev : Value} (hI : Inv s) (hb : s.born = []) (h1 : Row base w ev s.es) (h2 : NRow base w fv s.free) :
    ∃ fa ea fc ec, fv = .slice fa s.free.length fc ∧ ev = .slice ea s.es.length ec ∧ InE w s fa ea fc ec ∧ ∀ B c, w.heap[B]? = some (.cells c 36) → Off B s fa ea := by
  obtain ⟨ea, ec, rfl, hcap, hr, _⟩ := h1.open
  obtain ⟨fa, fc, rfl, _, hn, _⟩ := h2.open
  refine ⟨fa, ea, fc, ec, rfl, rfl, ⟨own_nil h2, own_nil h1, hcap, hr, hn, fun i hi => ?_, hb⟩, fun B c hB => ⟨Or.inr fun b o e => ?_, Or.inr fun b o e => ?_⟩⟩
  · have hm : fld s.free i ∈ s.free := by
      unfold fld
      rw [List.getD_eq_getElem?_getD, List.getElem?_eq_getElem hi]
      exact List.getElem_mem hi
    have := hI.known (List.mem_append_right _ hm)
    have hn := hI.n1
    exact wf64 (by omega) (by omega)
  · subst e
    intro e2
    exact row_ne h2 hB (by decide) (by rw [← e2]; rfl)
  · subst e
    intro e2
    exact row_ne h1 hB (by decide) (by rw [← e2]; rfl)
theorem heap_six_same {w : World} {b : Nat} {t : TypeId} {x0 x1 x2 x3 x4 x5 a0 a1 a2 a3 a4 a5 : Value} (h : w.heap[b]? = some (.cells #[x0, x1, x2, x3, x4, x5] t)) : (setSix w b a0 a1 a2 a3 a4 a5).heap[b]? = some (.cells #[a0, a1, a2, a3, a4, a5] t) := by
  have h0 := heap_setCell_same w b 0 _ _ a0 h
  have h1 := heap_setCell_same _ b 1 _ _ a1 h0
  have h2 := heap_setCell_same _ b 2 _ _ a2 h1
  have h3 := heap_setCell_same _ b 3 _ _ a3 h2
  have h4 := heap_setCell_same _ b 4 _ _ a4 h3
  exact heap_setCell_same _ b 5 _ _ a5 h4
def Mid (s : St) (ls : List (List (List Int))) (m B Q k : Nat) (w : World) : Prop :=
  ∃ sk fa ea fc ec, w.heap[B]? = some (.cells (elC sk.t sk.g0 sk.g1 sk.nx (.slice fa sk.free.length fc) (.slice ea sk.es.length ec)) 36) ∧ InE w sk fa ea fc ec ∧ Off B sk fa ea ∧ Off Q sk fa ea ∧ Inv sk ∧ playO s (ls.take m) = playO sk ((ls.take m).drop k)
def Tks (w : World) (ta : Option Addr) (ls : List (List (List Int))) : Prop :=
  ls = [] ∨ ∃ b o, ta = some ⟨b, o, none⟩ ∧ ∀ i, i < ls.length → ∃ la lc, w.cell? ⟨b, o + i, none⟩ = some (.slice la (ls.getD i []).length lc) ∧ Recs w la 7 (ls.getD i [])
theorem Tks.at {w : World} {ta : Option Addr} {ls : List (List (List Int))} (h : Tks w ta ls) {i : Nat} (hi : i < ls.length) : ∃ b o la lc, ta = some ⟨b, o, none⟩ ∧ w.cell? ⟨b, o + i, none⟩ = some (.slice la (ls.getD i []).length lc) ∧ Recs w la 7 (ls.getD i []) := by
  rcases h with rfl | ⟨b, o, e, hc⟩
  · simp at hi
  · obtain ⟨la, lc, h1, h2⟩ := hc i hi
    exact ⟨b, o, la, lc, e, h1, h2⟩
theorem Tks.below {w w' : World} {ta : Option Addr} {ls : List (List (List Int))} (h : Tks w ta ls) (hb : Below w.heap.size w w') : Tks w' ta ls := by
  rcases h with h | ⟨b, o, e, hc⟩
  · exact Or.inl h
  · refine Or.inr ⟨b, o, e, fun i hi => ?_⟩
    obtain ⟨la, lc, h1, h2⟩ := hc i hi
    exact ⟨la, lc, (hb.cell (p := ⟨b, o + i, none⟩) (World.block_lt_of_cell? w _ h1)).trans h1, h2.below hb⟩
theorem getD_at {α : Type} {l : List α} {i : Nat} {d : α} (h : i < l.length) : l.getD i d = l[i] := by
  rw [List.getD_eq_getElem?_getD, List.getElem?_eq_getElem h]
  rfl
theorem playO_next {s sk : St} {ls : List (List (List Int))} {m k : Nat} (hm : m ≤ ls.length) (hk : k < m) (h : playO s (ls.take m) = playO sk ((ls.take m).drop k)) :
    (outC sk (ls.getD k []) = 0 → playO s (ls.take m) = playO (nextS sk (ls.getD k [])) ((ls.take m).drop (k + 1))) ∧ (outC sk (ls.getD k []) ≠ 0 → playO s (ls.take m) = (outC sk (ls.getD k []), zeroS)) := by
  have hkl : k < (ls.take m).length := by rw [List.length_take]; omega
  have e : (ls.take m).drop k = ls.getD k [] :: (ls.take m).drop (k + 1) := by
    rw [List.drop_eq_getElem_cons hkl, List.getElem_take, getD_at (by omega)]
  rw [h, e]
  refine ⟨fun h0 => ?_, fun h0 => ?_⟩
  · show (if outC sk (ls.getD k []) = 0 then _ else _) = _
    rw [if_pos h0]
  · show (if outC sk (ls.getD k []) = 0 then _ else _) = _
    rw [if_neg h0]
theorem mid_next {s sk : St} {ls : List (List (List Int))} {m k B Q base : Nat} {w U : World} {fv ev : Value} (hm : m ≤ ls.length) (hk : k < m) (hI : Inv sk) (hb : sk.born = []) (hp : playO s (ls.take m) = playO sk ((ls.take m).drop k)) (hc : outC sk (ls.getD k []) = 0)
    (h1 : Row base w ev (outS sk (ls.getD k [])).es) (h2 : NRow base w fv (outS sk (ls.getD k [])).free) (hU : Below w.heap.size w U) {x0 x1 x2 x3 x4 x5 : Value} {cq : Array Value} (hB : U.heap[B]? = some (.cells #[x0, x1, x2, x3, x4, x5] 36)) (hQ : U.heap[Q]? = some (.cells cq 36)) :
    Mid s ls m B Q (k + 1) (setSix U B (.int .i64 (outS sk (ls.getD k [])).t) (.int .i64 (outS sk (ls.getD k [])).g0) (.int .i64 (outS sk (ls.getD k [])).g1) (.int .i64 (outS sk (ls.getD k [])).nx) fv ev) := by
  obtain ⟨hI2, hb2⟩ := next_inv hI hb hc
  obtain ⟨fa, ea, fc, ec, rfl, rfl, hin, hoff⟩ := inE_rows (s := nextS sk (ls.getD k [])) hI2 hb2 (row_below h1 hU) (row_below h2 hU)
  exact ⟨nextS sk (ls.getD k []), fa, ea, fc, ec, heap_six_same hB, hin.six (hoff B _ hB), hoff B _ hB, hoff Q _ hQ, hI2, (playO_next hm hk hp).1 hc⟩
end Go.Proofs.Ytgiieepfhohmhab
