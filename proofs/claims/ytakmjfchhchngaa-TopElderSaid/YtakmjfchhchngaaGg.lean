/- A tick under way: one more is laid where its number belongs. -/
import Derived.Test.YtakmjfchhchngaaGf
namespace Go.Proofs.Ytakmjfchhchngaa
open Go.RowKit Go.Maps

theorem row_row_ne {w : World} {b1 b2 : Nat} {e1 e2 : TypeId} {s1 s2 : Nat} {v1 v2 : Value} {n1 n2 : Nat} {x1 x2 : List Value} (h1 : w.ownsRow b1 e1 s1 v1 n1 x1) (h2 : w.ownsRow b2 e2 s2 v2 n2 x2) (he : e2 ≠ e1) : v1.ownBlock = none ∨ v1.ownBlock ≠ v2.ownBlock := by
  rcases h2.2 with ⟨rfl, _⟩ | ⟨g, cap, cur, rfl, hbg, hgg, rest⟩
  · by_cases h : v1.ownBlock = none
    · exact Or.inl h
    · exact Or.inr h
  · exact Or.inr (row_ne h1 hgg he)

/- A store into the game itself, behind a turn of a row. -/
theorem gm_pset {base : Nat} {w : World} {p : Nat} {ev fv bv : Value} {B : Nat} {s : St} {was : Int → Int} (hp : w.heap[p]? = some (.cells (gameC s fv ev bv B) 125)) (ct : Counts w B 1000 was) (bp : base ≤ p) (bB : base ≤ B)
    (j : Nat) (v : Value) {s' : St} {ev' fv' bv' : Value} (harr : (gameC s fv ev bv B).setIfInBounds j v = gameC s' fv' ev' bv' B)
    (er : Row base w ev' s'.es) (fr : NRow base w fv' s'.free) (br : NRow base w bv' s'.born) (fb : fv'.ownBlock = none ∨ fv'.ownBlock ≠ bv'.ownBlock) : Gm base (w.setCell ⟨p, j, none⟩ v) p ev' fv' bv' B s' was := by
  have pB : p ≠ B := by
    intro e
    obtain ⟨es, c, hm⟩ := ct.isMap
    rw [← e, hp] at hm
    cases hm
  have ho : ∀ k, k ≠ p → (w.setCell ⟨p, j, none⟩ v).heap[k]? = w.heap[k]? := fun k hk => heap_setCell_other w ⟨p, j, none⟩ k v (fun e => hk e)
  refine ⟨?_, ?_, ?_, ?_, ?_, bp, bB, fb⟩
  · rw [← harr]
    exact heap_setCell_same w p j _ _ v hp
  · exact row_other er fun g hg => ho g fun e => row_ne er hp (by decide) (by rw [hg, e])
  · exact row_other fr fun g hg => ho g fun e => row_ne fr hp (by decide) (by rw [hg, e])
  · exact row_other br fun g hg => ho g fun e => row_ne br hp (by decide) (by rw [hg, e])
  · exact ct.other (ho B (fun e => pB e.symm))

/- What an append to the row of those that are there leaves as it was. -/
theorem Gm.grownE {base : Nat} {w w' : World} {p : Nat} {ev fv bv : Value} {B : Nat} {s : St} {was : Int → Int} (h : Gm base w p ev fv bv B s was) (hg : w.grownBy w' ev.ownBlock) :
    w'.heap[p]? = some (.cells (gameC s fv ev bv B) 125) ∧ NRow base w' fv s.free ∧ NRow base w' bv s.born ∧ Counts w' B 1000 was := by
  obtain ⟨me, mc, hm⟩ := h.ct.isMap
  have hB : B < w.heap.size := (Array.getElem?_eq_some_iff.1 hm).1
  refine ⟨(hg.block p h.lt (fun e => row_ne h.er h.hp (by decide) e.symm)).trans h.hp, World.ownsRow.kept h.fr hg (row_row_ne h.fr h.er (by decide)), World.ownsRow.kept h.br hg (row_row_ne h.br h.er (by decide)), h.ct.other (hg.block B hB (fun e => row_ne_map h.er hm e.symm))⟩

/- The ten cells of one, stored. -/
def put10 (w : World) (g m : Nat) (u : List Int) : World :=
  (((((((((w.setCell ⟨g, m, none⟩ (.int .i64 (fld u 0))).setCell ⟨g, m + 1, none⟩ (.int .i64 (fld u 1))).setCell ⟨g, m + 2, none⟩ (.int .i64 (fld u 2))).setCell ⟨g, m + 3, none⟩ (.int .i64 (fld u 3))).setCell ⟨g, m + 4, none⟩ (.int .i64 (fld u 4))).setCell ⟨g, m + 5, none⟩ (.int .i64 (fld u 5))).setCell ⟨g, m + 6, none⟩ (.int .i64 (fld u 6))).setCell ⟨g, m + 7, none⟩ (.int .i64 (fld u 7))).setCell ⟨g, m + 8, none⟩ (.int .i64 (fld u 8))).setCell ⟨g, m + 9, none⟩ (.int .i64 (fld u 9))
theorem flat_set_congr {es : List (List Int)} {i : Nat} {a b : List Int} (hab : ∀ j, j < 10 → fld a j = fld b j) : flat 10 (es.set i a) = flat 10 (es.set i b) := by
  have e : recL 10 a = recL 10 b := by
    unfold recL
    apply List.map_congr_left
    intro j hj
    rw [hab j (by simpa using hj)]
  induction es generalizing i with
  | nil => rfl
  | cons x es ih =>
    cases i with
    | zero => simp only [List.set_cons_zero, flat_cons, e]
    | succ i => simp only [List.set_cons_succ, flat_cons, ih]
theorem gm_put10 {base : Nat} {w : World} {p g n c : Nat} {fv bv : Value} {B : Nat} {s : St} {was : Int → Int} (h : Gm base w p (.slice (some ⟨g, 0, none⟩) n c) fv bv B s was) {i : Nat} (hi : i < s.es.length) (u : List Int) :
    Gm base (put10 w g (i * 10) u) p (.slice (some ⟨g, 0, none⟩) n c) fv bv B { s with es := s.es.set i u } was := by
  have h0 := gm_rput h hi (j := 0) (by omega) (fld u 0)
  have h1 := gm_rput h0 (i := i) (by simpa using hi) (j := 1) (by omega) (fld u 1)
  have h2 := gm_rput h1 (i := i) (by simpa using hi) (j := 2) (by omega) (fld u 2)
  have h3 := gm_rput h2 (i := i) (by simpa using hi) (j := 3) (by omega) (fld u 3)
  have h4 := gm_rput h3 (i := i) (by simpa using hi) (j := 4) (by omega) (fld u 4)
  have h5 := gm_rput h4 (i := i) (by simpa using hi) (j := 5) (by omega) (fld u 5)
  have h6 := gm_rput h5 (i := i) (by simpa using hi) (j := 6) (by omega) (fld u 6)
  have h7 := gm_rput h6 (i := i) (by simpa using hi) (j := 7) (by omega) (fld u 7)
  have h8 := gm_rput h7 (i := i) (by simpa using hi) (j := 8) (by omega) (fld u 8)
  have h9 := gm_rput h8 (i := i) (by simpa using hi) (j := 9) (by omega) (fld u 9)
  simp only [set_set, Nat.add_zero] at h9
  rw [rec_set_same hi, rec_set_same hi, rec_set_same hi, rec_set_same hi, rec_set_same hi, rec_set_same hi, rec_set_same hi, rec_set_same hi, rec_set_same hi] at h9
  refine ⟨h9.hp, ?_, h9.fr, h9.br, h9.ct, h9.bp, h9.bB, h9.fb⟩
  have he := h9.er
  unfold Row at he ⊢
  rw [List.length_set] at he ⊢
  rw [flat_set_congr (b := u)] at he
  · exact he
  · intro j hj
    match j, hj with
    | 0, _ => simp [fld_updR]
    | 1, _ => simp [fld_updR]
    | 2, _ => simp [fld_updR]
    | 3, _ => simp [fld_updR]
    | 4, _ => simp [fld_updR]
    | 5, _ => simp [fld_updR]
    | 6, _ => simp [fld_updR]
    | 7, _ => simp [fld_updR]
    | 8, _ => simp [fld_updR]
    | 9, _ => simp [fld_updR]
theorem below_put10 {base : Nat} {a w : World} {g m : Nat} {u : List Int} (h : Below base a w) (hg : base ≤ g) : Below base a (put10 w g m u) :=
  (((((((((h.setCell (p := ⟨g, m, none⟩) hg _).setCell (p := ⟨g, m + 1, none⟩) hg _).setCell (p := ⟨g, m + 2, none⟩) hg _).setCell (p := ⟨g, m + 3, none⟩) hg _).setCell (p := ⟨g, m + 4, none⟩) hg _).setCell (p := ⟨g, m + 5, none⟩) hg _).setCell (p := ⟨g, m + 6, none⟩) hg _).setCell (p := ⟨g, m + 7, none⟩) hg _).setCell (p := ⟨g, m + 8, none⟩) hg _).setCell (p := ⟨g, m + 9, none⟩) hg _

def isAbove (id : Int) (r : List Int) : Bool := decide (id < fld r 0)
def insE (es : List (List Int)) (u : List Int) : List (List Int) :=
  if idxZ (isAbove (fld u 0)) es < 0 then es ++ [u] else es.take (idxZ (isAbove (fld u 0)) es).toNat ++ u :: es.drop (idxZ (isAbove (fld u 0)) es).toNat
theorem ins_moved {es : List (List Int)} {u : List Int} {i : Nat} (hi : i < es.length) :
    ((es ++ [u]).take (i + 1) ++ ((es ++ [u]).drop i).take (es.length - i) ++ (es ++ [u]).drop (i + 1 + (es.length - i))).set i u = es.take i ++ u :: es.drop i := by
  have e1 : (es ++ [u]).take (i + 1) = es.take (i + 1) := List.take_append_of_le_length (by omega)
  have e2 : ((es ++ [u]).drop i).take (es.length - i) = es.drop i := by
    rw [List.drop_append_of_le_length (by omega), List.take_append_of_le_length (by rw [List.length_drop]; omega), List.take_of_length_le (by rw [List.length_drop]; omega)]
  have e3 : (es ++ [u]).drop (i + 1 + (es.length - i)) = [] := List.drop_of_length_le (by simp; omega)
  have hl : (es.take i).length = i := by rw [List.length_take]; omega
  have e4 : es.take (i + 1) = es.take i ++ [es[i]] := by rw [List.take_add_one, List.getElem?_eq_getElem hi]; rfl
  rw [e1, e2, e3, List.append_nil, e4, List.append_assoc, List.set_append, if_neg (by omega), hl, Nat.sub_self]
  rfl

set_option maxHeartbeats 1000000 in
theorem add1_calls (u : List Int) (X : Nat) (w : World) (hX : X < w.heap.size) (hc : w.cell? ⟨X, 0, none⟩ = some (.int .i64 (fld u 0))) (W : World) (r : List Int) (hb : Below w.heap.size w W) :
    Calls Try.prog 150 (#[entV r] ++ #[.pointer (some ⟨X, 0, none⟩)]) W fun e w' => e = .returned (.bool (isAbove (fld u 0) r)) ∧ Below w.heap.size w w' := by
  have hcW : W.cell? ⟨X, 0, none⟩ = some (.int .i64 (fld u 0)) := (hb.cell (p := ⟨X, 0, none⟩) hX).trans hc
  have hXW : X < W.heap.size := Nat.lt_of_lt_of_le hX hb.size
  have hne : X ≠ W.heap.size := by omega
  have HB := hid hb
  clear hb hc hX
  show Calls Try.prog 150 #[.agg #[.int .i64 (fld r 0), .int .i64 (fld r 1), .int .i64 (fld r 2), .int .i64 (fld r 3), .int .i64 (fld r 4), .int .i64 (fld r 5), .int .i64 (fld r 6), .int .i64 (fld r 7), .int .i64 (fld r 8), .int .i64 (fld r 9)], .pointer (some ⟨X, 0, none⟩)] W fun e w' => e = .returned (.bool (decide (fld u 0 < fld r 0))) ∧ Below w.heap.size w w'
  by_cases hq : fld u 0 < fld r 0
  · rw [decide_eq_true hq]
    go_enter Try.func150, Try.ntmps150
    go_wp2
    go_ret
    exact ⟨rfl, HB.out.alloc HB.out.size _⟩
  · rw [decide_eq_false hq]
    go_enter Try.func150, Try.ntmps150
    go_wp2
    go_ret
    exact ⟨rfl, HB.out.alloc HB.out.size _⟩
theorem step_copies {ops : Array Oper} {o : Oper} {a : Act} {w : World} {K : Act → World → Prop} {Q : Exit → Act → World → Prop} {E : Prop} (hgd : o.guard = none) (d s : Operand)
    (ho : o.op = .call { callee := .builtin .copy, args := #[d, s], argTypes := #[58, 58] }) (base g c : Nat) (es : List (List Int)) (di qi : Nat) (hown : Row base w (.slice (some ⟨g, 0, none⟩) es.length c) es)
    (da sa : Option Addr) (dl dc sl sc m : Nat) (hde : a.eval d = .slice da dl dc) (hse : a.eval s = .slice sa sl sc) (hd : di + m ≤ es.length) (hq : qi + m ≤ es.length) (hm : m = Nat.min sl dl) (hda : 0 < m → da = some ⟨g, di * 10, none⟩ ∧ sa = some ⟨g, qi * 10, none⟩)
    (h : ∀ w', Row base w' (.slice (some ⟨g, 0, none⟩) es.length c) (es.take di ++ (es.drop qi).take m ++ es.drop (di + m)) → w.grownBy w' (some g) → K (a.put o.dst (goInt m)) w') :
    if Region.wanted o (yielded ops a.tmps) = true then Oper.wp Try.prog o a w K Q else E := by
  have hw : Region.wanted o (yielded ops a.tmps) = true := by simp [Region.wanted, hgd]
  rw [if_pos hw]
  obtain ⟨w', hr, h2, h3⟩ := copyRun w base g c o.type es di qi hown da sa dl dc sl sc m hd hq hm hda
  unfold Oper.wp execOp
  simp only [ho, resolve, invoke, builtin, Sem.run_bind, Sem.run_pure, Result.andThen_ok, List.map_toArray, List.map_cons, List.map_nil, hde, hse, hr]
  exact h w' h2 h3
end Go.Proofs.Ytakmjfchhchngaa
