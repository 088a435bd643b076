/- A tick under way: a row is moved within itself. -/
import Derived.Laws.IdiomCopy
import Derived.Test.YtgiieepfhohmhabTElB
import Derived.Test.YtgiieepfhohmhabTMemA
import Derived.Test.YtgiieepfhohmhabTRefBA
import Derived.Test.YtgiieepfhohmhabTHdA
namespace Go.Proofs.Ytgiieepfhohmhab
open Go.RowKit Go.Maps
theorem flat_take (k : Nat) (es : List (List Int)) (d : Nat) : (flat k es).take (d * k) = flat k (es.take d) := by
  induction es generalizing d with
  | nil => simp [flat]
  | cons u es ih =>
    cases d with
    | zero => simp [flat]
    | succ d =>
      rw [flat_cons, List.take_succ_cons, flat_cons, ← ih d, List.take_append, recL_length]
      have e1 : (recL k u).take ((d + 1) * k) = recL k u := List.take_of_length_le (by rw [recL_length, Nat.succ_mul]; omega)
      have e2 : (d + 1) * k - k = d * k := by rw [Nat.succ_mul]; omega
      rw [e1, e2]
theorem flat_drop (k : Nat) (es : List (List Int)) (d : Nat) : (flat k es).drop (d * k) = flat k (es.drop d) := by
  induction es generalizing d with
  | nil => simp [flat]
  | cons u es ih =>
    cases d with
    | zero => simp [flat]
    | succ d =>
      rw [flat_cons, List.drop_succ_cons, ← ih d, List.drop_append, recL_length]
      have e1 : (recL k u).drop ((d + 1) * k) = [] := List.drop_of_length_le (by rw [recL_length, Nat.succ_mul]; omega)
      have e2 : (d + 1) * k - k = d * k := by rw [Nat.succ_mul]; omega
      rw [e1, e2, List.nil_append]
theorem copyRun (w : World) (base g c : Nat) (ty : TypeId) (es : List (List Int)) (d q : Nat) (h : Row base w (.slice (some ⟨g, 0, none⟩) es.length c) es) (da sa : Option Addr) (dl dc sl sc m : Nat)
    (hd : d + m ≤ es.length) (hq : q + m ≤ es.length) (hm : m = Nat.min sl dl) (hda : 0 < m → da = some ⟨g, d * 10, none⟩ ∧ sa = some ⟨g, q * 10, none⟩) :
    ∃ w', (Builtin.copy_ #[34, 34] ty #[.slice da dl dc, .slice sa sl sc]).run Try.prog w = .ok (goInt m) w' ∧ Row base w' (.slice (some ⟨g, 0, none⟩) es.length c) (es.take d ++ (es.drop q).take m ++ es.drop (d + m)) ∧ w.grownBy w' (some g) := by
  obtain ⟨i0, hi, hz0, hz1, hz2⟩ := info_parts info_ent
  have hu := Try.underlying34
  by_cases h0 : m = 0
  · refine ⟨w, ?_, ?_, ⟨rfl, rfl, rfl, Nat.le_refl _, fun _ _ _ => rfl⟩⟩
    · have hl : ∀ (x : Addr), (loadCells x 0).run Try.prog w = .ok #[] w := fun x => by simpa using run_loadCells_list (P := Try.prog) w x [] (by simp)
      rw [h0] at hm ⊢
      have hm' := hm.symm
      cases da <;> cases sa <;> simp [Builtin.copy_, run_underlying hu, Builtin.lenOf, Builtin.firstCells, sizeOf, typeInfo, hi, hm', storeCells, hl]
    · rw [h0]
      simp only [List.take_zero, List.append_nil, Nat.add_zero, List.take_append_drop]
      exact h
  · obtain ⟨rfl, rfl⟩ := hda (by omega)
    rcases h.2 with ⟨h', _⟩ | ⟨g', cap', cur, h', hb, hg, hnc, hcm, hcs, htake⟩
    · cases h'
    · cases h'
      have hl1 : (flat 10 ((es.drop q).take m)).length = m * 10 := by rw [flat_length, List.length_take, List.length_drop, Nat.min_eq_left (by omega)]
      have hsrc : ∀ j v, (flat 10 ((es.drop q).take m))[j]? = some v → w.cell? ((⟨g, q * 10, none⟩ : Addr).add j) = some v := by
        intro j v hv
        have hj : j < m * 10 := by
          rw [← hl1]
          exact (List.getElem?_eq_some_iff.1 hv).1
        rw [add_off, World.ownsRow.cellAt h _ (by omega), ← hv, ← flat_take, ← flat_drop, List.getElem?_take, if_pos hj, List.getElem?_drop]
      have hl := run_loadCells_list (P := Try.prog) w ⟨g, q * 10, none⟩ (flat 10 ((es.drop q).take m)) hsrc
      have hst := run_storeCells_at Try.prog g (d * 10) 63 (flat 10 ((es.drop q).take m)) 0 cur w hg (by rw [hl1, hcs]; omega) (flat_one _ _)
      rw [hl1] at hl hst
      simp only [Nat.add_zero, List.append_assoc] at hst
      have hle : (es.take d ++ (es.drop q).take m ++ es.drop (d + m)).length = es.length := by
        simp only [List.length_append, List.length_take, List.length_drop]
        omega
      refine ⟨w.setRow g (cur.toList.take (d * 10) ++ (flat 10 ((es.drop q).take m) ++ cur.toList.drop (d * 10 + m * 10))).toArray, ?_, ?_, ?_⟩
      · have e : Nat.min sl dl = m := hm.symm
        simp [Builtin.copy_, run_underlying hu, Builtin.lenOf, Builtin.firstCells, sizeOf, typeInfo, hi, hz1, e, hl, hst]
      · have hX : (flat 10 es).length = es.length * 10 := flat_length 10 es
        have hcur : cur.toList = flat 10 es ++ cur.toList.drop (es.length * 10) := by rw [← htake, List.take_append_drop]
        generalize cur.toList.drop (es.length * 10) = Y at hcur
        have e1 : cur.toList.take (d * 10) = flat 10 (es.take d) := by rw [hcur, List.take_append_of_le_length (by rw [hX]; omega), flat_take]
        have e2 : cur.toList.drop (d * 10 + m * 10) = flat 10 (es.drop (d + m)) ++ Y := by
          rw [hcur, ← Nat.add_mul, List.drop_append_of_le_length (by rw [hX]; omega), flat_drop]
        unfold Row
        rw [hle]
        refine ⟨by rw [flat_length, hle], .inr ⟨g, c, _, rfl, hb, setRow_heap w g cur _ _ _ hg, hnc, hcm, ?_, ?_⟩⟩
        · have hcl : cur.toList.length = c * 10 := by rw [Array.length_toList, hcs]
          simp only [List.size_toArray, List.length_append, List.length_take, List.length_drop, hl1, hcl]
          omega
        · rw [e1, e2]
          have e3 : (flat 10 (es.take d) ++ (flat 10 ((es.drop q).take m) ++ (flat 10 (es.drop (d + m)) ++ Y))) = flat 10 (es.take d ++ (es.drop q).take m ++ es.drop (d + m)) ++ Y := by simp [flat_append]
          rw [e3]
          exact List.take_left' (by rw [flat_length, hle])
      · exact ⟨rfl, rfl, rfl, by simp [World.setRow], fun k _ hk => setRow_other w g k _ (fun e => hk (by rw [e]))⟩
end Go.Proofs.Ytgiieepfhohmhab
namespace Go.Proofs.Ytgiieepfhohmhab
open Go.RowKit Go.Maps
theorem row_row_ne {w : World} {b1 b2 : Nat} {e1 e2 : TypeId} {s1 s2 : Nat} {v1 v2 : Value} {n1 n2 : Nat} {x1 x2 : List Value} (h1 : w.ownsRow b1 e1 s1 v1 n1 x1) (h2 : w.ownsRow b2 e2 s2 v2 n2 x2) (he : e2 ≠ e1) : v1.ownBlock = none ∨ v1.ownBlock ≠ v2.ownBlock := by
  rcases h2.2 with ⟨rfl, _⟩ | ⟨g, cap, cur, rfl, hbg, hgg, rest⟩
  · by_cases h : v1.ownBlock = none
    · exact Or.inl h
    · exact Or.inr h
  · exact Or.inr (row_ne h1 hgg he)
theorem gm_pset {base : Nat} {w : World} {p : Nat} {ev fv bv : Value} {B : Nat} {s : St} {was : Int → Int} (hp : w.heap[p]? = some (.cells (gameC s fv ev bv B) 87)) (ct : Counts w B 1000 was) (bp : base ≤ p) (bB : base ≤ B)
    (j : Nat) (v : Value) {s' : St} {ev' fv' bv' : Value} (harr : (gameC s fv ev bv B).setIfInBounds j v = gameC s' fv' ev' bv' B)
    (er : Row base w ev' s'.es) (fr : NRow base w fv' s'.free) (br : NRow base w bv' s'.born) (fb : fv'.ownBlock = none ∨ fv'.ownBlock ≠ bv'.ownBlock) : Gm base (w.setCell ⟨p, j, none⟩ v) p ev' fv' bv' B s' was := by
  have pB : p ≠ B := by
    intro e
    obtain ⟨es, c, hm⟩ := ct.isMap
    rw [← e, hp] at hm
    cases hm
  have ho : ∀ k, k ≠ p → (w.setCell ⟨p, j, none⟩ v).heap[k]? = w.heap[k]? := fun k hk => heap_setCell_other w ⟨p, j, none⟩ k v (fun e => hk e)
  refine ⟨?_, ?_, ?_, ?_, ?_, bp, bB, fb⟩
  · rw [← harr]
    exact heap_setCell_same w p j _ _ v hp
  · exact row_other er fun g hg => ho g fun e => row_ne er hp (by decide) (by rw [hg, e])
  · exact row_other fr fun g hg => ho g fun e => row_ne fr hp (by decide) (by rw [hg, e])
  · exact row_other br fun g hg => ho g fun e => row_ne br hp (by decide) (by rw [hg, e])
  · exact ct.other (ho B (fun e => pB e.symm))
theorem Gm.grownE {base : Nat} {w w' : World} {p : Nat} {ev fv bv : Value} {B : Nat} {s : St} {was : Int → Int} (h : Gm base w p ev fv bv B s was) (hg : w.grownBy w' ev.ownBlock) :
    w'.heap[p]? = some (.cells (gameC s fv ev bv B) 87) ∧ NRow base w' fv s.free ∧ NRow base w' bv s.born ∧ Counts w' B 1000 was := by
  obtain ⟨me, mc, hm⟩ := h.ct.isMap
  have hB : B < w.heap.size := (Array.getElem?_eq_some_iff.1 hm).1
  refine ⟨(hg.block p h.lt (fun e => row_ne h.er h.hp (by decide) e.symm)).trans h.hp, World.ownsRow.kept h.fr hg (row_row_ne h.fr h.er (by decide)), World.ownsRow.kept h.br hg (row_row_ne h.br h.er (by decide)), h.ct.other (hg.block B hB (fun e => row_ne_map h.er hm e.symm))⟩
def put10 (w : World) (g m : Nat) (u : List Int) : World :=
  (((((((((w.setCell ⟨g, m, none⟩ (.int .i64 (fld u 0))).setCell ⟨g, m + 1, none⟩ (.int .i64 (fld u 1))).setCell ⟨g, m + 2, none⟩ (.int .i64 (fld u 2))).setCell ⟨g, m + 3, none⟩ (.int .i64 (fld u 3))).setCell ⟨g, m + 4, none⟩ (.int .i64 (fld u 4))).setCell ⟨g, m + 5, none⟩ (.int .i64 (fld u 5))).setCell ⟨g, m + 6, none⟩ (.int .i64 (fld u 6))).setCell ⟨g, m + 7, none⟩ (.int .i64 (fld u 7))).setCell ⟨g, m + 8, none⟩ (.int .i64 (fld u 8))).setCell ⟨g, m + 9, none⟩ (.int .i64 (fld u 9))
theorem flat_set_congr {es : List (List Int)} {i : Nat} {a b : List Int} (hab : ∀ j, j < 10 → fld a j = fld b j) : flat 10 (es.set i a) = flat 10 (es.set i b) := by
  have e : recL 10 a = recL 10 b := by
    unfold recL
    apply List.map_congr_left
    intro j hj
    rw [hab j (by simpa using hj)]
  induction es generalizing i with
  | nil => rfl
  | cons x es ih =>
    cases i with
    | zero => simp only [List.set_cons_zero, flat_cons, e]
    | succ i => simp only [List.set_cons_succ, flat_cons, ih]
theorem gm_put10 {base : Nat} {w : World} {p g n c : Nat} {fv bv : Value} {B : Nat} {s : St} {was : Int → Int} (h : Gm base w p (.slice (some ⟨g, 0, none⟩) n c) fv bv B s was) {i : Nat} (hi : i < s.es.length) (u : List Int) :
    Gm base (put10 w g (i * 10) u) p (.slice (some ⟨g, 0, none⟩) n c) fv bv B { s with es := s.es.set i u } was := by
  have h0 := gm_rput h hi (j := 0) (by omega) (fld u 0)
  have h1 := gm_rput h0 (i := i) (by simpa using hi) (j := 1) (by omega) (fld u 1)
  have h2 := gm_rput h1 (i := i) (by simpa using hi) (j := 2) (by omega) (fld u 2)
  have h3 := gm_rput h2 (i := i) (by simpa using hi) (j := 3) (by omega) (fld u 3)
  have h4 := gm_rput h3 (i := i) (by simpa using hi) (j := 4) (by omega) (fld u 4)
  have h5 := gm_rput h4 (i := i) (by simpa using hi) (j := 5) (by omega) (fld u 5)
  have h6 := gm_rput h5 (i := i) (by simpa using hi) (j := 6) (by omega) (fld u 6)
  have h7 := gm_rput h6 (i := i) (by simpa using hi) (j := 7) (by omega) (fld u 7)
  have h8 := gm_rput h7 (i := i) (by simpa using hi) (j := 8) (by omega) (fld u 8)
  have h9 := gm_rput h8 (i := i) (by simpa using hi) (j := 9) (by omega) (fld u 9)
  simp only [set_set, Nat.add_zero] at h9
  rw [rec_set_same hi, rec_set_same hi, rec_set_same hi, rec_set_same hi, rec_set_same hi, rec_set_same hi, rec_set_same hi, rec_set_same hi, rec_set_same hi] at h9
  refine ⟨h9.hp, ?_, h9.fr, h9.br, h9.ct, h9.bp, h9.bB, h9.fb⟩
  have he := h9.er
  unfold Row at he ⊢
  rw [List.length_set] at he ⊢
  rw [flat_set_congr (b := u)] at he
  · exact he
  · intro j hj
    match j, hj with
    | 0, _ => simp [fld_updR]
    | 1, _ => simp [fld_updR]
    | 2, _ => simp [fld_updR]
    | 3, _ => simp [fld_updR]
    | 4, _ => simp [fld_updR]
    | 5, _ => simp [fld_updR]
    | 6, _ => simp [fld_updR]
    | 7, _ => simp [fld_updR]
    | 8, _ => simp [fld_updR]
    | 9, _ => simp [fld_updR]
theorem below_put10 {base : Nat} {a w : World} {g m : Nat} {u : List Int} (h : Below base a w) (hg : base ≤ g) : Below base a (put10 w g m u) :=
  (((((((((h.setCell (p := ⟨g, m, none⟩) hg _).setCell (p := ⟨g, m + 1, none⟩) hg _).setCell (p := ⟨g, m + 2, none⟩) hg _).setCell (p := ⟨g, m + 3, none⟩) hg _).setCell (p := ⟨g, m + 4, none⟩) hg _).setCell (p := ⟨g, m + 5, none⟩) hg _).setCell (p := ⟨g, m + 6, none⟩) hg _).setCell (p := ⟨g, m + 7, none⟩) hg _).setCell (p := ⟨g, m + 8, none⟩) hg _).setCell (p := ⟨g, m + 9, none⟩) hg _
def isAbove (id : Int) (r : List Int) : Bool := decide (id < fld r 0)
def insE (es : List (List Int)) (u : List Int) : List (List Int) :=
  if idxZ (isAbove (fld u 0)) es < 0 then es ++ [u] else es.take (idxZ (isAbove (fld u 0)) es).toNat ++ u :: es.drop (idxZ (isAbove (fld u 0)) es).toNat
theorem ins_moved {es : List (List Int)} {u : List Int} {i : Nat} (hi : i < es.length) :
    ((es ++ [u]).take (i + 1) ++ ((es ++ [u]).drop i).take (es.length - i) ++ (es ++ [u]).drop (i + 1 + (es.length - i))).set i u = es.take i ++ u :: es.drop i := by
  have e1 : (es ++ [u]).take (i + 1) = es.take (i + 1) := List.take_append_of_le_length (by omega)
  have e2 : ((es ++ [u]).drop i).take (es.length - i) = es.drop i := by
    rw [List.drop_append_of_le_length (by omega), List.take_append_of_le_length (by rw [List.length_drop]; omega), List.take_of_length_le (by rw [List.length_drop]; omega)]
  have e3 : (es ++ [u]).drop (i + 1 + (es.length - i)) = [] := List.drop_of_length_le (by simp; omega)
  have hl : (es.take i).length = i := by rw [List.length_take]; omega
  have e4 : es.take (i + 1) = es.take i ++ [es[i]] := by rw [List.take_add_one, List.getElem?_eq_getElem hi]; rfl
  rw [e1, e2, e3, List.append_nil, e4, List.append_assoc, List.set_append, if_neg (by omega), hl, Nat.sub_self]
  rfl
set_option maxHeartbeats 1000000 in
theorem add1_calls (u : List Int) (X : Nat) (w : World) (hX : X < w.heap.size) (hc : w.cell? ⟨X, 0, none⟩ = some (.int .i64 (fld u 0))) (W : World) (r : List Int) (hb : Below w.heap.size w W) :
    Calls Try.prog 93 (#[entV r] ++ #[.pointer (some ⟨X, 0, none⟩)]) W fun e w' => e = .returned (.bool (isAbove (fld u 0) r)) ∧ Below w.heap.size w w' := by
  have hcW : W.cell? ⟨X, 0, none⟩ = some (.int .i64 (fld u 0)) := (hb.cell (p := ⟨X, 0, none⟩) hX).trans hc
  have hXW : X < W.heap.size := Nat.lt_of_lt_of_le hX hb.size
  have hne : X ≠ W.heap.size := by omega
  have HB := hid hb
  clear hb hc hX
  show Calls Try.prog 93 #[.agg #[.int .i64 (fld r 0), .int .i64 (fld r 1), .int .i64 (fld r 2), .int .i64 (fld r 3), .int .i64 (fld r 4), .int .i64 (fld r 5), .int .i64 (fld r 6), .int .i64 (fld r 7), .int .i64 (fld r 8), .int .i64 (fld r 9)], .pointer (some ⟨X, 0, none⟩)] W fun e w' => e = .returned (.bool (decide (fld u 0 < fld r 0))) ∧ Below w.heap.size w w'
  by_cases hq : fld u 0 < fld r 0
  · rw [decide_eq_true hq]
    go_enter Try.func93, Try.ntmps93
    go_wp2
    go_ret
    exact ⟨rfl, HB.out.alloc HB.out.size _⟩
  · rw [decide_eq_false hq]
    go_enter Try.func93, Try.ntmps93
    go_wp2
    go_ret
    exact ⟨rfl, HB.out.alloc HB.out.size _⟩
theorem step_copies {ops : Array Oper} {o : Oper} {a : Act} {w : World} {K : Act → World → Prop} {Q : Exit → Act → World → Prop} {E : Prop} (hgd : o.guard = none) (d s : Operand)
    (ho : o.op = .call { callee := .builtin .copy, args := #[d, s], argTypes := #[34, 34] }) (base g c : Nat) (es : List (List Int)) (di qi : Nat) (hown : Row base w (.slice (some ⟨g, 0, none⟩) es.length c) es)
    (da sa : Option Addr) (dl dc sl sc m : Nat) (hde : a.eval d = .slice da dl dc) (hse : a.eval s = .slice sa sl sc) (hd : di + m ≤ es.length) (hq : qi + m ≤ es.length) (hm : m = Nat.min sl dl) (hda : 0 < m → da = some ⟨g, di * 10, none⟩ ∧ sa = some ⟨g, qi * 10, none⟩)
    (h : ∀ w', Row base w' (.slice (some ⟨g, 0, none⟩) es.length c) (es.take di ++ (es.drop qi).take m ++ es.drop (di + m)) → w.grownBy w' (some g) → K (a.put o.dst (goInt m)) w') :
    if Region.wanted o (yielded ops a.tmps) = true then Oper.wp Try.prog o a w K Q else E := by
  have hw : Region.wanted o (yielded ops a.tmps) = true := by simp [Region.wanted, hgd]
  rw [if_pos hw]
  obtain ⟨w', hr, h2, h3⟩ := copyRun w base g c o.type es di qi hown da sa dl dc sl sc m hd hq hm hda
  unfold Oper.wp execOp
  simp only [ho, resolve, invoke, builtin, Sem.run_bind, Sem.run_pure, Result.andThen_ok, List.map_toArray, List.map_cons, List.map_nil, hde, hse, hr]
  exact h w' h2 h3
end Go.Proofs.Ytgiieepfhohmhab
namespace Go.Proofs.Ytgiieepfhohmhab
open Go.RowKit Go.Maps
theorem GmE.drew {base : Nat} {w : World} {p : Nat} {s : St} {was : Int → Int} (h : GmE base w p s was) : GmE base w.drew p s was := by
  obtain ⟨ev, fv, bv, B, h⟩ := h
  exact ⟨ev, fv, bv, B, ⟨h.hp, h.er, h.fr, h.br, h.ct, h.bp, h.bB, h.fb⟩⟩
def AddF (w wx : World) (p : Nat) (ev ev' : Value) : Prop :=
  w.heap.size ≤ wx.heap.size ∧ (∀ k, k < w.heap.size → k ≠ p → ev.ownBlock ≠ some k → wx.heap[k]? = w.heap[k]?) ∧ (∀ k, ev'.ownBlock = some k → ev.ownBlock = some k ∨ w.heap.size ≤ k)
theorem AddF.frame {base : Nat} {w w' : World} {p : Nat} {ev fv bv ev' : Value} {B : Nat} {s s' : St} {was was' : Int → Int} (f : AddF w w' p ev ev') (h : Gm base w p ev fv bv B s was) (h' : Gm base w' p ev' fv bv B s' was') : Fr w w' p :=
  h.frame h' f.1 (fun k hk hp he _ _ _ => f.2.1 k hk hp he) f.2.2 (fun _ hk => Or.inl hk) (fun _ hk => Or.inl hk)
theorem AddF.turn {w wx wy : World} {p : Nat} {ev ev' : Value} (f : AddF w wx p ev ev') (hs : wx.heap.size ≤ wy.heap.size) (ho : ∀ k, ev'.ownBlock ≠ some k → k < wx.heap.size → wy.heap[k]? = wx.heap[k]?) : AddF w wy p ev ev' :=
  ⟨Nat.le_trans f.1 hs, fun k hk hp he => (ho k (fun e => by
    rcases f.2.2 k e with x | x
    · exact he x
    · omega) (by have := f.1; omega)).trans (f.2.1 k hk hp he), f.2.2⟩
theorem put10_other (w : World) (g m : Nat) (u : List Int) (k : Nat) (h : k ≠ g) : (put10 w g m u).heap[k]? = w.heap[k]? := by
  unfold put10
  rw [heap_setCell_other _ _ _ _ (fun e => h e), heap_setCell_other _ _ _ _ (fun e => h e), heap_setCell_other _ _ _ _ (fun e => h e), heap_setCell_other _ _ _ _ (fun e => h e), heap_setCell_other _ _ _ _ (fun e => h e), heap_setCell_other _ _ _ _ (fun e => h e), heap_setCell_other _ _ _ _ (fun e => h e), heap_setCell_other _ _ _ _ (fun e => h e), heap_setCell_other _ _ _ _ (fun e => h e), heap_setCell_other _ _ _ _ (fun e => h e)]
theorem Fr.drew {a b : World} {p : Nat} (h : Fr a b p) : Fr a b.drew p := ⟨h.1, fun k hk ha => ⟨(h.2 k hk ha).1, (h.2 k hk ha).2.1, fun j v hv => (h.2 k hk ha).2.2 j v hv⟩⟩
theorem recs_one (w : World) (u : List Int) (t : TypeId) : Recs (w.alloc (.cells (entC u) t)) (some ⟨w.heap.size, 0, none⟩) 10 [u] := by
  refine Or.inr ⟨w.heap.size, 0, rfl, fun i hi j hj => ?_⟩
  have h0 : i = 0 := by simpa using hi
  subst h0
  rw [Nat.zero_mul, Nat.zero_add, World.cell?_alloc_at _ _ _ _ rfl]
  match j, hj with
  | 0, _ => rfl
  | 1, _ => rfl
  | 2, _ => rfl
  | 3, _ => rfl
  | 4, _ => rfl
  | 5, _ => rfl
  | 6, _ => rfl
  | 7, _ => rfl
  | 8, _ => rfl
  | 9, _ => rfl
set_option maxRecDepth 100000 in
set_option maxHeartbeats 4000000 in
theorem add_calls (base p : Nat) (s : St) (was : Int → Int) (u : List Int) (w : World) (hn : s.es.length ≤ 100) (h : GmE base w p s was) :
    Calls Try.prog 85 #[.pointer (some ⟨p, 0, none⟩), entV u] w fun e w' => e = .returned (.tuple #[]) ∧ GmE base w' p { s with es := insE s.es u } was ∧ Below base w w' ∧ Fr w w' p := by
  obtain ⟨ev, fv, bv, B, h⟩ := h
  obtain ⟨ea, c, rfl, hcap, hrecs, hg0⟩ := h.er.open
  have hlt := h.lt
  have hbp := h.bp
  have hbw : base ≤ w.heap.size := by omega
  obtain ⟨w1, hw1⟩ : ∃ w1, w1 = w.alloc (.cells (entC u) 63) := ⟨_, rfl⟩
  have hb1 : Below w.heap.size w w1 := by rw [hw1]; exact (Below.refl _ w).alloc (Nat.le_refl _) _
  have hs1 : w1.heap.size = w.heap.size + 1 := by rw [hw1]; simp [go_sem]
  have e0 : w1.cell? ⟨w.heap.size, 0, none⟩ = some (.int .i64 (fld u 0)) := by rw [hw1]; simp [go_sem]
  have hu10 : w1.heap[w.heap.size]? = some (.cells (entC u) 63) := by rw [hw1]; exact heap_alloc_new w _
  have eg : ∀ args w, (callFunc 93 args).run Try.prog w = .ok (.enter 93 args) w := enters_of Try.func93 (by kernel_rfl) rfl
  have HC := hid (indexFunc_calls 93 #[.pointer (some ⟨w.heap.size, 0, none⟩)] eg (isAbove (fld u 0)) s.es ea c w1 (by omega) (hrecs.below hb1) (fun W r hb => add1_calls u w.heap.size w1 (by omega) e0 W r hb))
  have HG := hid (h.below hb1)
  have HGm0 := hid h
  have HE0 : Hid (∀ k, (Value.slice ea s.es.length c).ownBlock = some k → k < w.heap.size) := fun k hk => (World.ownsRow.lt h.er k hk).2
  obtain ⟨c0, c1, c2, c3, c4, c5, c6, c7⟩ := (h.below hb1).eight
  have HB1 := hid hb1
  have HS1 := hid hs1
  have HU := hid hu10
  have HW1 := hid hw1
  clear h hrecs hg0 eg e0 hb1 hs1 hu10 c0 c1 c2 c3 c4 c6 c7
  go_enter Try.func85, Try.ntmps85
  have hsx : (w.alloc (.cells (entC u) 63)) = w1 := hw1.symm
  clear hw1
  go_wp2_with fail
  refine HC.out.mono ?_
  clear HC hsx c5
  rintro e w2 ⟨rfl, hb2⟩
  have hG2 := HG.out.below hb2
  have hs2 : w.heap.size + 1 ≤ w2.heap.size := by have h := hb2.size; rw [HS1.out] at h; exact h
  have hu2 : w2.heap[w.heap.size]? = some (.cells (entC u) 63) := (hb2.block w.heap.size (by rw [HS1.out]; omega)).trans HU.out
  have HBB := hid (HB1.out.trans (hb2.mono (by rw [HS1.out]; omega)))
  have HB2 : Hid (Below base w w2) := HBB.out.mono hbw
  have hxc : ∀ j, w2.cell? ⟨w.heap.size, j, none⟩ = (entC u)[j]? := fun j => cell_of_row w2 w.heap.size j _ _ _ hu2
  have x0 : w2.cell? ⟨w.heap.size, 0, none⟩ = some (.int .i64 (fld u 0)) := hxc 0
  have x1 : w2.cell? ⟨w.heap.size, 1, none⟩ = some (.int .i64 (fld u 1)) := hxc 1
  have x2 : w2.cell? ⟨w.heap.size, 2, none⟩ = some (.int .i64 (fld u 2)) := hxc 2
  have x3 : w2.cell? ⟨w.heap.size, 3, none⟩ = some (.int .i64 (fld u 3)) := hxc 3
  have x4 : w2.cell? ⟨w.heap.size, 4, none⟩ = some (.int .i64 (fld u 4)) := hxc 4
  have x5 : w2.cell? ⟨w.heap.size, 5, none⟩ = some (.int .i64 (fld u 5)) := hxc 5
  have x6 : w2.cell? ⟨w.heap.size, 6, none⟩ = some (.int .i64 (fld u 6)) := hxc 6
  have x7 : w2.cell? ⟨w.heap.size, 7, none⟩ = some (.int .i64 (fld u 7)) := hxc 7
  have x8 : w2.cell? ⟨w.heap.size, 8, none⟩ = some (.int .i64 (fld u 8)) := hxc 8
  have x9 : w2.cell? ⟨w.heap.size, 9, none⟩ = some (.int .i64 (fld u 9)) := hxc 9
  obtain ⟨c0, c1, c2, c3, c4, c5, c6, c7⟩ := hG2.eight
  have HG2 := hid hG2
  have HU2 := hid hu2
  have hp2 := hG2.lt
  clear hG2 hu2 hb2 hxc HG HU HB1 c0 c1 c2 c3 c4 c6 c7
  go_wp2_with fail
  go_cut [20] (fun r wx => ∃ va vc, Hid (Row base wx (.slice va (s.es.length + 1) vc) (s.es ++ [u]) ∧ Gm base wx p (.slice va (s.es.length + 1) vc) fv bv B { s with es := s.es ++ [u] } was ∧ wx.heap[w.heap.size]? = some (.cells (entC u) 63) ∧ Below base w wx ∧ (Value.slice va (s.es.length + 1) vc).ownBlock ≠ some w.heap.size ∧ AddF w wx p (.slice ea s.es.length c) (.slice va (s.es.length + 1) vc)))
  case first =>
    go_region_law (refine step_rows rfl (.tmp 17) (.tmp 19) rfl base (.slice ea s.es.length c) s.es (by simp [Act.eval]) (World.ownsRow.alloc HG2.out.er _) (some ⟨w2.heap.size, 0, none⟩) 1 [u] (by simp [Act.eval]) (recs_one w2 u _) (by simp) (by simp; omega) (by simp [go_sem]; omega) ?_
                   intro v' w' hr hg hl
                   have hl1 : (s.es ++ [u]).length = s.es.length + 1 := by simp
                   have hr' := hr
                   obtain ⟨va, vc, rfl, _, _, _⟩ := hr'.open
                   rw [hl1] at hr ⊢
                   have hg' : (w2.alloc (.cells (entC u) 63)).grownBy w' (Value.slice ea s.es.length c).ownBlock := ⟨hg.os, hg.tape, hg.output, hg.size, hg.block⟩
                   obtain ⟨kp, kf, kb, kc⟩ := (HG2.out.below ((Below.refl _ w2).alloc (Nat.le_refl _) _)).grownE hg'
                   have f5 := frozen_of_row w' p 5 _ _ kp
                   have d5 : w'.cell? ⟨p, 5, none⟩ = some (.slice ea s.es.length c) := cell_of_row w' p 5 _ _ _ kp
                   have hGn := gm_pset kp kc HG2.out.bp HG2.out.bB 5 (.slice va (s.es.length + 1) vc) (s' := { s with es := s.es ++ [u] }) (ev' := .slice va (s.es.length + 1) vc) (fv' := fv) (bv' := bv) rfl hr kf kb HG2.out.fb
                   have hne : p ≠ w.heap.size := by omega
                   have hXn : (w'.setCell ⟨p, 5, none⟩ (.slice va (s.es.length + 1) vc)).heap[w.heap.size]? = some (.cells (entC u) 63) := by
                     rw [heap_setCell_other w' ⟨p, 5, none⟩ w.heap.size _ (fun e => hne e.symm), hg'.block w.heap.size (by simp [go_sem]; omega) (fun e => by have := HE0.out _ e.symm; omega), heap_alloc_old _ _ (by omega)]
                     exact HU2.out
                   have hBn : Below base w (w'.setCell ⟨p, 5, none⟩ (.slice va (s.es.length + 1) vc)) := ((HB2.out.alloc (by omega) _).grown hg' (by simp [go_sem]; omega) (fun k hk => (World.ownsRow.lt HG2.out.er k hk).1)).setCell (p := ⟨p, 5, none⟩) hbp _
                   have hOn : (Value.slice va (s.es.length + 1) vc).ownBlock ≠ some w.heap.size := by
                     intro e
                     rw [hl1] at hl
                     rcases hl with hl | hl
                     · have := HE0.out w.heap.size (hl.symm.trans e)
                       omega
                     · have h2 := hl.symm.trans e
                       simp [go_sem] at h2
                       omega
                   have hAn : AddF w (w'.setCell ⟨p, 5, none⟩ (.slice va (s.es.length + 1) vc)) p (.slice ea s.es.length c) (.slice va (s.es.length + 1) vc) := by
                     refine ⟨?_, ?_, ?_⟩
                     · have h1 := hg'.size
                       simp [go_sem] at h1 ⊢
                       omega
                     · intro k hk hkp hke
                       rw [heap_setCell_other w' ⟨p, 5, none⟩ k _ (fun e => hkp e), hg'.block k (by simp [go_sem]; omega) (fun e => hke e.symm), heap_alloc_old _ _ (by omega)]
                       exact HBB.out.block k hk
                     · intro k hk
                       rw [hl1] at hl
                       rcases hl with hl | hl
                       · exact Or.inl (hl.symm.trans hk)
                       · have h2 := hl.symm.trans hk
                         simp [go_sem] at h2
                         exact Or.inr (by omega)
                   have HAn := hid hAn
                   have HOn := hid hOn
                   have HGn := hid hGn
                   have HXn := hid hXn
                   have HBn := hid hBn
                   clear hr hr' hg hl hg' kp kf kb kc hGn hXn hBn hne hl1 hOn hAn)
    all_goals
      go_wp2
      go_meet
      exact ⟨_, _, HGn.out.er, HGn.out, HXn.out, HBn.out, HOn.out, HAn.out⟩
  case rest =>
    clear x0 x1 x2 x3 x4 x5 x6 x7 x8 x9 c5 HG2 HU2 HB2 HE0
    obtain ⟨va, vc, HM⟩ := hcut
    by_cases hz : idxZ (isAbove (fld u 0)) s.es < 0
    · have HE : Hid (insE s.es u = s.es ++ [u]) := by show _ = _; unfold insE; rw [if_pos hz]
      go_wp2
      go_end0
      exact ⟨rfl, by rw [HE.out]; exact ⟨_, _, _, _, HM.out.2.1⟩, HM.out.2.2.2.1, HM.out.2.2.2.2.2.frame HGm0.out HM.out.2.1⟩
    · obtain ⟨k, hk⟩ : ∃ k : Nat, idxZ (isAbove (fld u 0)) s.es = k := ⟨(idxZ (isAbove (fld u 0)) s.es).toNat, by omega⟩
      have hkl : k < s.es.length := by have := (idxZ_bd (isAbove (fld u 0)) s.es).2; omega
      have HE : Hid (insE s.es u = s.es.take k ++ u :: s.es.drop k) := by
        show _ = _
        unfold insE
        rw [if_neg hz, hk]
        rfl
      rw [hk]
      clear hz hk
      have hG3 := HM.out.2.1
      have hlen : ({ s with es := s.es ++ [u] } : St).es.length = s.es.length + 1 := by simp
      obtain ⟨ea', c', hev, hcap', hrec', hg0'⟩ := hG3.er.open
      rw [hlen] at hev hcap' hg0'
      obtain ⟨g, hg, hbg, hgl⟩ := hg0' (by omega)
      cases hev
      subst hg
      have hnc1 : ¬ vc = k + 1 := by omega
      have hnc2 : ¬ vc = k := by omega
      have hlz1 : (k : Int) + 1 ≤ ((s.es.length + 1 : Nat) : Int) := by omega
      have hlz2 : (k : Int) ≤ ((s.es.length + 1 : Nat) : Int) := by omega
      have hkz0 : (0 : Int) ≤ (k : Int) := by omega
      have hkz1 : (k : Int) ≤ 1000 := by omega
      have hwrp : IntKind.i64.wrap ((k : Int) + 1) = (k : Int) + 1 := IntWalk.i64_in _ ⟨by omega, by omega⟩
      have h01 : (0 : Int) ≤ (k : Int) + 1 := by omega
      have htn : ((k : Int) + 1).toNat = k + 1 := by omega
      have hkle : (k : Int) ≤ (s.es.length : Int) := by omega
      have hkle1 : (k : Int) ≤ (s.es.length : Int) + 1 := by omega
      have hcz1 : ((s.es.length + 1 : Nat) : Int) ≤ (vc : Int) := by omega
      obtain ⟨c0, c1, c2, c3, c4, c5, c6, c7⟩ := hG3.eight
      have HG3 := hid hG3
      clear hG3 hrec' hg0' hlen c0 c1 c2 c3 c4 c6 c7
      go_wp2_with fail
      have HROW : Hid (Row base wc (.slice (some ⟨g, 0, none⟩) (s.es ++ [u]).length vc) (s.es ++ [u])) := by
        have h := HG3.out.er
        rw [List.length_append]
        exact h
      have HN : Hid (g ≠ w.heap.size) := fun e => HM.out.2.2.2.2.1 (by rw [e]; rfl)
      go_cut [33] (fun _ wx => Hid (Gm base wx p (.slice (some ⟨g, 0, none⟩) (s.es.length + 1) vc) fv bv B { s with es := (s.es ++ [u]).take (k + 1) ++ ((s.es ++ [u]).drop k).take (s.es.length - k) ++ (s.es ++ [u]).drop (k + 1 + (s.es.length - k)) } was ∧ wx.heap[w.heap.size]? = some (.cells (entC u) 63) ∧ Below base w wx ∧ AddF w wx p (.slice ea s.es.length c) (.slice (some ⟨g, 0, none⟩) (s.es.length + 1) vc)))
      case first =>
        go_region_law (refine step_copies rfl (.tmp 33) (.tmp 40) rfl base g vc (s.es ++ [u]) (k + 1) k (World.ownsRow.drew HROW.out) (some ⟨g, (k + 1) * 10, none⟩) (some ⟨g, k * 10, none⟩) (s.es.length - k) (vc - (k + 1)) (s.es.length + 1 - k) (vc - k) (s.es.length - k) (by simp [Act.eval, Act.put]) (by simp [Act.eval, Act.put]) (by simp; omega) (by simp; omega) (Nat.min_eq_right (by omega)).symm (fun _ => ⟨rfl, rfl⟩) ?_
                       intro w' hr hg
                       have HRw := hid hr
                       have HGw := hid (drew_grown hg)
                       clear hr hg)
        all_goals
          go_wp2
          go_meet
          obtain ⟨kp, kf, kb, kc⟩ := HG3.out.grownE HGw.out
          have hl1 : (s.es ++ [u]).length = s.es.length + 1 := by simp
          have hr := HRw.out
          rw [hl1] at hr
          have hlt3 : w.heap.size < wc.heap.size := (Array.getElem?_eq_some_iff.1 HM.out.2.2.1).1
          refine ⟨⟨kp, hr, kf, kb, kc, HG3.out.bp, HG3.out.bB, HG3.out.fb⟩, ?_, ?_, HM.out.2.2.2.2.2.turn HGw.out.size (fun k hk hkl => HGw.out.block k hkl (fun e => hk e.symm))⟩
          · rw [HGw.out.block w.heap.size hlt3 (fun e => HN.out (by simpa using e.symm))]
            exact HM.out.2.2.1
          · exact below_grown HM.out.2.2.2.1 HGw.out hbg (by omega)
      case rest =>
        clear HM HG3 HROW c5
        obtain ⟨hGc, hXc, hBc, hAc⟩ := hcut.out
        have hset := ins_moved (u := u) hkl
        have hLl : ((s.es ++ [u]).take (k + 1) ++ ((s.es ++ [u]).drop k).take (s.es.length - k) ++ (s.es ++ [u]).drop (k + 1 + (s.es.length - k))).length = s.es.length + 1 := by simp; omega
        generalize (s.es ++ [u]).take (k + 1) ++ ((s.es ++ [u]).drop k).take (s.es.length - k) ++ (s.es ++ [u]).drop (k + 1 + (s.es.length - k)) = L at hGc hset hLl
        have hkL : k < ({ s with es := L } : St).es.length := by show k < L.length; omega
        have hxc : ∀ j, wc.cell? ⟨w.heap.size, j, none⟩ = (entC u)[j]? := fun j => cell_of_row wc w.heap.size j _ _ _ hXc
        obtain ⟨hc, hf⟩ := hGc.er.ten hkL
        have x0 : wc.cell? ⟨w.heap.size, 0, none⟩ = some (.int .i64 (fld u 0)) := hxc 0
        have x1 : wc.cell? ⟨w.heap.size, 1, none⟩ = some (.int .i64 (fld u 1)) := hxc 1
        have x2 : wc.cell? ⟨w.heap.size, 2, none⟩ = some (.int .i64 (fld u 2)) := hxc 2
        have x3 : wc.cell? ⟨w.heap.size, 3, none⟩ = some (.int .i64 (fld u 3)) := hxc 3
        have x4 : wc.cell? ⟨w.heap.size, 4, none⟩ = some (.int .i64 (fld u 4)) := hxc 4
        have x5 : wc.cell? ⟨w.heap.size, 5, none⟩ = some (.int .i64 (fld u 5)) := hxc 5
        have x6 : wc.cell? ⟨w.heap.size, 6, none⟩ = some (.int .i64 (fld u 6)) := hxc 6
        have x7 : wc.cell? ⟨w.heap.size, 7, none⟩ = some (.int .i64 (fld u 7)) := hxc 7
        have x8 : wc.cell? ⟨w.heap.size, 8, none⟩ = some (.int .i64 (fld u 8)) := hxc 8
        have x9 : wc.cell? ⟨w.heap.size, 9, none⟩ = some (.int .i64 (fld u 9)) := hxc 9
        have l0 : wc.cell? ⟨g, k * 10, none⟩ = some (.int .i64 (fld (rec ({ s with es := L } : St).es k) 0)) := hc 0 (by omega)
        have l1 := hc 1 (by omega)
        have l2 := hc 2 (by omega)
        have l3 := hc 3 (by omega)
        have l4 := hc 4 (by omega)
        have l5 := hc 5 (by omega)
        have l6 := hc 6 (by omega)
        have l7 := hc 7 (by omega)
        have l8 := hc 8 (by omega)
        have l9 := hc 9 (by omega)
        have f0 := hf (k * 10)
        have f1 := hf (k * 10 + 1)
        have f2 := hf (k * 10 + 2)
        have f3 := hf (k * 10 + 3)
        have f4 := hf (k * 10 + 4)
        have f5 := hf (k * 10 + 5)
        have f6 := hf (k * 10 + 6)
        have f7 := hf (k * 10 + 7)
        have f8 := hf (k * 10 + 8)
        have f9 := hf (k * 10 + 9)
        obtain ⟨c0, c1, c2, c3, c4, c5, c6, c7⟩ := hGc.eight
        have hGp := gm_put10 hGc hkL u
        have HGp := hid hGp
        have HSET := hid hset
        have HBc := hid (below_put10 (m := k * 10) (u := u) hBc hbg)
        have HAc : Hid (AddF w (put10 wc g (k * 10) u) p (.slice ea s.es.length c) (.slice (some ⟨g, 0, none⟩) (s.es.length + 1) vc)) := hAc.turn (by simp [put10]) (fun q hq _ => put10_other _ _ _ _ _ (fun e => hq (by rw [e]; rfl)))
        clear hcut hGc hXc hBc hAc hset hxc hc hf hGp c0 c1 c2 c3 c4 c6 c7 hLl
        go_wp2_with fail
        go_region
        all_goals
          go_wp2
          go_end0
          refine ⟨rfl, ?_, ?_, ?_⟩
          · rw [HE.out]
            have h := HGp.out
            simp only [HSET.out] at h
            have h2 : GmE base (put10 wc g (k * 10) u) p { s with es := s.es.take k ++ u :: s.es.drop k } was := ⟨_, _, _, _, h⟩
            show GmE base (World.drew (put10 wc g (k * 10) u)) p _ was
            exact GmE.drew h2
          · show Below base w (World.drew (put10 wc g (k * 10) u))
            exact HBc.out.drew
          · show Fr w (World.drew (put10 wc g (k * 10) u)) p
            exact Fr.drew (HAc.out.frame HGm0.out HGp.out)
end Go.Proofs.Ytgiieepfhohmhab
namespace Go.Proofs.Ytgiieepfhohmhab
open Go.RowKit Go.Maps
abbrev cmdV (q : List Int) : Value := .agg #[.int .i64 (fld q 0), .int .i64 (fld q 1), .int .i64 (fld q 2), .int .i64 (fld q 3), .int .i64 (fld q 4), .int .i64 (fld q 5), .int .i64 (fld q 6)]
abbrev cmdC (q : List Int) : Array Value := #[.int .i64 (fld q 0), .int .i64 (fld q 1), .int .i64 (fld q 2), .int .i64 (fld q 3), .int .i64 (fld q 4), .int .i64 (fld q 5), .int .i64 (fld q 6)]
abbrev ruleC (k : Int) : Array Value := #[.int .i64 (Pl.eCost k), .int .i64 (Pl.eHP k), .int .i64 (Pl.eSpeed k), .int .i64 (Pl.eHarm k), .int .i64 (Pl.eRange k), .int .i64 (Pl.eLoad k)]
def goldOf (s : St) (o : Int) : Int := if o = 0 then s.g0 else s.g1
def payS (s : St) (o c : Int) : St := if o = 0 then { s with g0 := s.g0 - c } else { s with g1 := s.g1 - c }
def takeS (s : St) : Option (Int × St) :=
  if s.free = [] then (if 200 < s.nx then none else some (s.nx, { s with nx := s.nx + 1 })) else some (fld s.free (s.free.length - 1), { s with free := s.free.take (s.free.length - 1) })
def newU (id o k x y : Int) : List Int := [id, o, k, x, y, Pl.eHP k, 0, 0, 0, 0]
def mayBuild (s : St) (u q : List Int) : Bool :=
  Pl.eHas (fld q 3) && (fld q 3 != 4 && (fld u 2 == 1 && (roomE s.es u (fld q 4) (fld q 5) && (decide (Pl.eCost (fld q 3) ≤ goldOf s (fld u 1)) && decide (s.es.length < 20)))))
def buildS (s : St) (u q : List Int) : St :=
  if mayBuild s u q = true then
    match takeS s with
    | none => s
    | some (id, s1) => { payS s1 (fld u 1) (Pl.eCost (fld q 3)) with es := insE s1.es (newU id (fld u 1) (fld q 3) (fld q 4) (fld q 5)), born := s1.born ++ [id] }
  else s
theorem takeID_some (base p : Nat) (s : St) (was : Int → Int) (w : World) (id : Int) (s1 : St) (ht : takeS s = some (id, s1)) (hn0 : 0 ≤ s.nx) (hfl : s.free.length ≤ 1000) (h : GmE base w p s was) :
    Calls Try.prog 84 #[.pointer (some ⟨p, 0, none⟩)] w fun e w' => e = .returned (.tuple #[.int .i64 id, .bool true]) ∧ GmE base w' p s1 was ∧ Below base w w' ∧ Fr w w' p := by
  unfold takeS at ht
  split at ht
  next hf =>
    split at ht
    · cases ht
    · cases ht
      exact takeID_next base p s was w hf (by omega) hn0 h
  next hf =>
    cases ht
    have hl : 0 < s.free.length := List.length_pos_iff.2 hf
    exact takeID_free base p s was w (s.free.length - 1) (by omega) (by omega) h
theorem takeID_no (base p : Nat) (s : St) (was : Int → Int) (w : World) (ht : takeS s = none) (h : GmE base w p s was) :
    Calls Try.prog 84 #[.pointer (some ⟨p, 0, none⟩)] w fun e w' => e = .returned (.tuple #[.int .i64 0, .bool false]) ∧ w' = w := by
  unfold takeS at ht
  split at ht
  next hf =>
    split at ht
    · exact takeID_none base p s was w hf (by omega) h
    · cases ht
  · cases ht
theorem Gm.grownB {base : Nat} {w w' : World} {p : Nat} {ev fv bv : Value} {B : Nat} {s : St} {was : Int → Int} (h : Gm base w p ev fv bv B s was) (hg : w.grownBy w' bv.ownBlock) :
    w'.heap[p]? = some (.cells (gameC s fv ev bv B) 87) ∧ Row base w' ev s.es ∧ NRow base w' fv s.free ∧ Counts w' B 1000 was := by
  obtain ⟨me, mc, hm⟩ := h.ct.isMap
  have hB : B < w.heap.size := (Array.getElem?_eq_some_iff.1 hm).1
  refine ⟨(hg.block p h.lt (fun e => row_ne h.br h.hp (by decide) e.symm)).trans h.hp, World.ownsRow.kept h.er hg (row_row_ne h.er h.br (by decide)), World.ownsRow.kept h.fr hg h.fb, h.ct.other (hg.block B hB (fun e => row_ne_map h.br hm e.symm))⟩
theorem Gm.apartNew {base : Nat} {w w' : World} {p : Nat} {ev fv bv : Value} {B : Nat} {s : St} {was : Int → Int} (h : Gm base w p ev fv bv B s was) (hb : Below w.heap.size w w') {k : Nat} (hk : w.heap.size ≤ k) : Apart w' p k := by
  refine (h.below hb).apart.2 ⟨by have := h.lt; omega, fun e => ?_, fun e => ?_, fun e => ?_, fun e => ?_⟩
  · have := (World.ownsRow.lt h.er k e).2; omega
  · have := (World.ownsRow.lt h.fr k e).2; omega
  · have := (World.ownsRow.lt h.br k e).2; omega
  · obtain ⟨me, mc, hm⟩ := h.ct.isMap
    have hB : B < w.heap.size := (Array.getElem?_eq_some_iff.1 hm).1
    omega
theorem GmE.apartNew {base : Nat} {w w' : World} {p : Nat} {s : St} {was : Int → Int} (h : GmE base w p s was) (hb : Below w.heap.size w w') {k : Nat} (hk : w.heap.size ≤ k) : Apart w' p k := by
  obtain ⟨ev, fv, bv, B, h⟩ := h
  exact h.apartNew hb hk
theorem GmE.lt {base : Nat} {w : World} {p : Nat} {s : St} {was : Int → Int} (h : GmE base w p s was) : base ≤ p ∧ p < w.heap.size := by
  obtain ⟨ev, fv, bv, B, h⟩ := h
  exact ⟨h.bp, h.lt⟩
theorem nums_one (w : World) (x : Int) (t : TypeId) : Nums (w.alloc (.cells #[.int .i64 x] t)) (some ⟨w.heap.size, 0, none⟩) [x] := by
  refine Or.inr ⟨w.heap.size, 0, rfl, fun i hi => ?_⟩
  have h0 : i = 0 := by simpa using hi
  subst h0
  rw [World.cell?_alloc_at _ _ _ _ rfl]
  rfl
theorem gm_pay {base : Nat} {w : World} {p : Nat} {s : St} {was : Int → Int} (h : GmE base w p s was) (o c : Int) (ho : o = 0 ∨ o = 1) :
    GmE base (w.setCell ⟨p, 1 + o.toNat, none⟩ (.int .i64 (goldOf s o - c))) p (payS s o c) was ∧ Fr w (w.setCell ⟨p, 1 + o.toNat, none⟩ (.int .i64 (goldOf s o - c))) p ∧ w.cell? ⟨p, 1 + o.toNat, none⟩ = some (.int .i64 (goldOf s o)) ∧ w.frozen? ⟨p, 1 + o.toNat, none⟩ = false := by
  obtain ⟨ev, fv, bv, B, h⟩ := h
  rcases ho with rfl | rfl
  · have hg : Gm base (w.setCell ⟨p, 1, none⟩ (.int .i64 (s.g0 - c))) p ev fv bv B (payS s 0 c) was := h.pset 1 (.int .i64 (s.g0 - c)) (s' := payS s 0 c) rfl h.er h.fr h.br h.fb
    exact ⟨⟨ev, fv, bv, B, hg⟩, h.setFrame hg rfl rfl rfl, h.cell 1, h.frozen 1⟩
  · have hg : Gm base (w.setCell ⟨p, 2, none⟩ (.int .i64 (s.g1 - c))) p ev fv bv B (payS s 1 c) was := h.pset 2 (.int .i64 (s.g1 - c)) (s' := payS s 1 c) rfl h.er h.fr h.br h.fb
    exact ⟨⟨ev, fv, bv, B, hg⟩, h.setFrame hg rfl rfl rfl, h.cell 2, h.frozen 2⟩
end Go.Proofs.Ytgiieepfhohmhab
namespace Go.Proofs.Ytgiieepfhohmhab
open Go.RowKit Go.Maps
end Go.Proofs.Ytgiieepfhohmhab
namespace Go.Proofs.Ytgiieepfhohmhab
open Go.RowKit Go.Maps
end Go.Proofs.Ytgiieepfhohmhab
namespace Go.Proofs.Ytgiieepfhohmhab
open Go.RowKit Go.Maps
section
variable {w w' : World} {p : Nat} {nw : Bool} {s : St} {ua fa : Option Addr} {uc fc : Nat} {bv : Value}
end
end Go.Proofs.Ytgiieepfhohmhab
