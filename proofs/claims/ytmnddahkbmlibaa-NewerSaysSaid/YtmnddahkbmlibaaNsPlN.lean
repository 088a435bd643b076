/- What comes of a tick and of a play of the newer game, in one shape for the program and for the reference. -/
import Derived.Test.YtmnddahkbmlibaaNsRefQ
import Derived.Test.YtmnddahkbmlibaaNsNwX
namespace Go.Proofs.Ytmnddahkbmlibaa
open Go.RowKit Go.Maps
def ckN (s : St) : Nat := checkN s.t s.g0 s.g1 s.nx s.es
def outCN (s : St) (l : List (List Int)) : Nat := if ckN s = 0 then (if 8 < l.length ∨ s.t = 60 then 2 else 0) else ckN s
def outSN (s : St) (l : List (List Int)) : St := if ckN s = 0 ∧ ¬ (8 < l.length ∨ s.t = 60) then stepN s l else zeroS
theorem checkN_le (s : St) : ckN s ≤ 3 := by
  have h1 : stateN s.t s.g0 s.g1 s.nx s.es.length ≤ 3 := by
    unfold stateN
    repeat' split
    all_goals omega
  have h2 : firstE s.es.length (oneN s.t s.nx s.es) ≤ 3 := firstE_le fun i _ => by
    unfold oneN unitAtN
    repeat' split
    all_goals omega
  have h3 : targetsN s.es ≤ 3 := by
    unfold targetsN
    first
      | (repeat' split
         all_goals omega)
      | (refine firstE_le fun i _ => ?_
         repeat' split
         all_goals omega)
  unfold ckN checkN
  repeat' split
  all_goals omega
theorem outCN_le (s : St) (l : List (List Int)) : outCN s l ≤ 3 := by
  have := checkN_le s
  unfold outCN
  repeat' split
  all_goals omega
def AnsN (f : Nat → Value) (s : St) (l : List (List Int)) (w : World) (e : Ending) (w' : World) : Prop :=
  ∃ uv, e = .returned (.tuple #[newerV (outSN s l).t (outSN s l).g0 (outSN s l).g1 (outSN s l).nx uv, f (outCN s l)]) ∧ RowU w.heap.size w' uv (outSN s l).es ∧ Below w.heap.size w w'
theorem ansN_zero {f : Nat → Value} {s : St} {l : List (List Int)} {w : World} {e : Ending} {w' : World} {c : Nat} (hc : outCN s l = c) (hs : outSN s l = zeroS) (he : e = .returned (.tuple #[zeroNV, f c])) (hb : Below w.heap.size w w') : AnsN f s l w e w' := by
  unfold AnsN
  rw [hc, hs]
  exact ⟨.slice none 0 0, he, World.ownsRow_nil _ _ _ _, hb⟩
theorem stepN_all (s : St) (ua la : Option Addr) (uc lc : Nat) (l : List (List Int)) (w : World) (h : InW w s ua uc) (hl : Recs w la 6 l) :
    Calls Try.prog 52 #[newerV s.t s.g0 s.g1 s.nx (.slice ua s.es.length uc), .slice la l.length lc] w (AnsN errV s l w) := by
  by_cases hc : ckN s = 0
  · by_cases hm : 8 < l.length ∨ s.t = 60
    · refine (stepN_many s ua la uc lc l w h hc hm).mono fun e w' ⟨he, hb⟩ => ansN_zero (c := 2) ?_ ?_ he hb
      · unfold outCN; rw [if_pos hc, if_pos hm]
      · unfold outSN; rw [if_neg (fun x => x.2 hm)]
    · have e1 : outCN s l = 0 := by unfold outCN; rw [if_pos hc, if_neg hm]
      have e2 : outSN s l = stepN s l := by unfold outSN; rw [if_pos ⟨hc, hm⟩]
      refine (stepN_good s ua la uc lc l w h hl hc (by omega) (fun e => hm (Or.inr e))).mono fun e w' ⟨uv, he, h1, hb⟩ => ?_
      unfold AnsN
      rw [e1, e2]
      exact ⟨uv, he, h1, hb⟩
  · refine (stepN_check s ua la uc lc l w h hc).mono fun e w' ⟨he, hb⟩ => ansN_zero (c := ckN s) ?_ ?_ he hb
    · unfold outCN; rw [if_neg hc]
    · unfold outSN; rw [if_neg (fun x => hc x.1)]
def nextSN (s : St) (l : List (List Int)) : St := { outSN s l with born := [] }
def playON (s : St) : List (List (List Int)) → Nat × St
  | [] => (0, s)
  | l :: ls => if outCN s l = 0 then playON (nextSN s l) ls else (outCN s l, zeroS)
def playCN (s : St) (ls : List (List (List Int))) (n : Int) : Nat × St :=
  if n < 0 ∨ (ls.length : Int) < n then (1, zeroS) else if ckN s = 0 then playON s (ls.take n.toNat) else (ckN s, zeroS)
theorem playON_le : ∀ (ls : List (List (List Int))) (s : St), (playON s ls).1 ≤ 3
  | [], _ => Nat.zero_le _
  | l :: ls, s => by
    unfold playON
    split
    · exact playON_le ls _
    · exact outCN_le s l
theorem playCN_le (s : St) (ls : List (List (List Int))) (n : Int) : (playCN s ls n).1 ≤ 3 := by
  have h1 := checkN_le s
  have h2 := playON_le (ls.take n.toNat) s
  unfold playCN
  repeat' split
  all_goals first | omega | exact h2 | exact h1
theorem next_invN {s : St} {l : List (List Int)} (h : InvN s) (hc : outCN s l = 0) : InvN (nextSN s l) ∧ (nextSN s l).born = [] := by
  have hk : ckN s = 0 := check_of_invN h
  unfold outCN at hc
  rw [if_pos hk] at hc
  have hm : ¬ (8 < l.length ∨ s.t = 60) := fun x => by rw [if_pos x] at hc; omega
  have e : nextSN s l = { stepN s l with born := [] } := by unfold nextSN outSN; rw [if_pos ⟨hk, hm⟩]
  rw [e]
  refine ⟨?_, rfl⟩
  have h1 := invN_step h (by have := h.t1; omega) l
  exact ⟨h1.t0, h1.t1, h1.n0, h1.n1, h1.a0, h1.a1, h1.el, h1.bd, h1.ow, h1.pl, h1.tg, h1.lt, h1.sn, h1.up, h1.ap, h1.am, h1.fr⟩
def OffN (B : Nat) (s : St) (ua : Option Addr) : Prop := s.es = [] ∨ ∀ b o, ua = some ⟨b, o, none⟩ → b ≠ B
theorem InW.five {w : World} {s : St} {ua : Option Addr} {uc B : Nat} {a0 a1 a2 a3 a4 : Value} (h : InW w s ua uc) (ho : OffN B s ua) : InW (setFive w B a0 a1 a2 a3 a4) s ua uc := by
  refine ⟨h.un, h.cap, ?_, h.fr, h.born⟩
  rcases h.rows with e | ⟨b, o, e, hc⟩
  · exact Or.inl e
  · rcases ho with e2 | hb
    · exact Or.inl e2
    · refine Or.inr ⟨b, o, e, fun i hi j hj => ?_⟩
      rw [← hc i hi j hj]
      unfold World.cell?
      simp only [heap_five (hb b o e)]
theorem inW_rows {base : Nat} {w : World} {s : St} {uv : Value} (hf : s.free = []) (hb : s.born = []) (h1 : RowU base w uv s.es) :
    ∃ ua uc, uv = .slice ua s.es.length uc ∧ InW w s ua uc ∧ ∀ B c, w.heap[B]? = some (.cells c 90) → OffN B s ua := by
  obtain ⟨ua, uc, rfl, hcap, hr, _⟩ := h1.open
  refine ⟨ua, uc, rfl, ⟨own_nil h1, hcap, hr, hf, hb⟩, fun B c hB => Or.inr fun b o e => ?_⟩
  subst e
  intro e2
  exact row_ne h1 hB (by decide) (by rw [← e2]; rfl)
theorem offN_old {w : World} {s : St} {ua : Option Addr} {uc B : Nat} (h : InW w s ua uc) (hB : w.heap.size ≤ B) : OffN B s ua := by
  rcases Nat.eq_zero_or_pos s.es.length with e | hp
  · exact Or.inl (List.eq_nil_of_length_eq_zero e)
  · obtain ⟨b, o, e, hc⟩ := h.rows.at hp
    refine Or.inr fun b' o' e' => ?_
    rw [e] at e'
    cases e'
    have := World.block_lt_of_cell? w _ (hc 0 (by omega))
    have h2 : b < w.heap.size := this
    omega
theorem heap_five_same {w : World} {b : Nat} {t : TypeId} {x0 x1 x2 x3 x4 a0 a1 a2 a3 a4 : Value} (h : w.heap[b]? = some (.cells #[x0, x1, x2, x3, x4] t)) : (setFive w b a0 a1 a2 a3 a4).heap[b]? = some (.cells #[a0, a1, a2, a3, a4] t) := by
  have h0 := heap_setCell_same w b 0 _ _ a0 h
  have h1 := heap_setCell_same _ b 1 _ _ a1 h0
  have h2 := heap_setCell_same _ b 2 _ _ a2 h1
  have h3 := heap_setCell_same _ b 3 _ _ a3 h2
  exact heap_setCell_same _ b 4 _ _ a4 h3
def MidN (s : St) (ls : List (List (List Int))) (m B Q k : Nat) (w : World) : Prop :=
  ∃ sk ua uc, w.heap[B]? = some (.cells (newerC sk.t sk.g0 sk.g1 sk.nx (.slice ua sk.es.length uc)) 90) ∧ InW w sk ua uc ∧ OffN B sk ua ∧ OffN Q sk ua ∧ InvN sk ∧ playON s (ls.take m) = playON sk ((ls.take m).drop k)
def TksN (w : World) (ta : Option Addr) (ls : List (List (List Int))) : Prop :=
  ls = [] ∨ ∃ b o, ta = some ⟨b, o, none⟩ ∧ ∀ i, i < ls.length → ∃ la lc, w.cell? ⟨b, o + i, none⟩ = some (.slice la (ls.getD i []).length lc) ∧ Recs w la 6 (ls.getD i [])
theorem TksN.at {w : World} {ta : Option Addr} {ls : List (List (List Int))} (h : TksN w ta ls) {i : Nat} (hi : i < ls.length) : ∃ b o la lc, ta = some ⟨b, o, none⟩ ∧ w.cell? ⟨b, o + i, none⟩ = some (.slice la (ls.getD i []).length lc) ∧ Recs w la 6 (ls.getD i []) := by
  rcases h with rfl | ⟨b, o, e, hc⟩
  · simp at hi
  · obtain ⟨la, lc, h1, h2⟩ := hc i hi
    exact ⟨b, o, la, lc, e, h1, h2⟩
theorem TksN.below {w w' : World} {ta : Option Addr} {ls : List (List (List Int))} (h : TksN w ta ls) (hb : Below w.heap.size w w') : TksN w' ta ls := by
  rcases h with h | ⟨b, o, e, hc⟩
  · exact Or.inl h
  · refine Or.inr ⟨b, o, e, fun i hi => ?_⟩
    obtain ⟨la, lc, h1, h2⟩ := hc i hi
    exact ⟨la, lc, (hb.cell (p := ⟨b, o + i, none⟩) (World.block_lt_of_cell? w _ h1)).trans h1, h2.below hb⟩
theorem playON_next {s sk : St} {ls : List (List (List Int))} {m k : Nat} (hm : m ≤ ls.length) (hk : k < m) (h : playON s (ls.take m) = playON sk ((ls.take m).drop k)) :
    (outCN sk (ls.getD k []) = 0 → playON s (ls.take m) = playON (nextSN sk (ls.getD k [])) ((ls.take m).drop (k + 1))) ∧ (outCN sk (ls.getD k []) ≠ 0 → playON s (ls.take m) = (outCN sk (ls.getD k []), zeroS)) := by
  have hkl : k < (ls.take m).length := by rw [List.length_take]; omega
  have e : (ls.take m).drop k = ls.getD k [] :: (ls.take m).drop (k + 1) := by
    rw [List.drop_eq_getElem_cons hkl, List.getElem_take, getD_at (by omega)]
  rw [h, e]
  refine ⟨fun h0 => ?_, fun h0 => ?_⟩
  · show (if outCN sk (ls.getD k []) = 0 then _ else _) = _
    rw [if_pos h0]
  · show (if outCN sk (ls.getD k []) = 0 then _ else _) = _
    rw [if_neg h0]
theorem mid_nextN {s sk : St} {ls : List (List (List Int))} {m k B Q base : Nat} {w U : World} {uv : Value} (hm : m ≤ ls.length) (hk : k < m) (hI : InvN sk) (hp : playON s (ls.take m) = playON sk ((ls.take m).drop k)) (hc : outCN sk (ls.getD k []) = 0)
    (h1 : RowU base w uv (outSN sk (ls.getD k [])).es) (hU : Below w.heap.size w U) {x0 x1 x2 x3 x4 : Value} {cq : Array Value} (hB : U.heap[B]? = some (.cells #[x0, x1, x2, x3, x4] 90)) (hQ : U.heap[Q]? = some (.cells cq 90)) :
    MidN s ls m B Q (k + 1) (setFive U B (.int .i64 (outSN sk (ls.getD k [])).t) (.int .i64 (outSN sk (ls.getD k [])).g0) (.int .i64 (outSN sk (ls.getD k [])).g1) (.int .i64 (outSN sk (ls.getD k [])).nx) uv) := by
  obtain ⟨hI2, hb2⟩ := next_invN hI hc
  obtain ⟨ua, uc, rfl, hin, hoff⟩ := inW_rows (s := nextSN sk (ls.getD k [])) hI2.fr hb2 (row_below h1 hU)
  exact ⟨nextSN sk (ls.getD k []), ua, uc, heap_five_same hB, hin.five (hoff B _ hB), hoff B _ hB, hoff Q _ hQ, hI2, (playON_next hm hk hp).1 hc⟩
abbrev reelC (t g0 g1 nx : Int) (uv tv : Value) : Array Value := #[.int .i64 t, .int .i64 g0, .int .i64 g1, .int .i64 nx, uv, tv]
abbrev reelV (t g0 g1 nx : Int) (uv tv : Value) : Value := .agg (reelC t g0 g1 nx uv tv)
def AnsPN (f : Nat → Value) (r : Nat × St) (w : World) (e : Ending) (w' : World) : Prop :=
  ∃ ua uc, e = .returned (.tuple #[newerV r.2.t r.2.g0 r.2.g1 r.2.nx (.slice ua r.2.es.length uc), f r.1]) ∧ Recs w' ua 11 r.2.es ∧ Below w.heap.size w w'
theorem ansPN_zero {f : Nat → Value} {c : Nat} {w : World} {e : Ending} {w' : World} (he : e = .returned (.tuple #[zeroNV, f c])) (hb : Below w.heap.size w w') : AnsPN f (c, zeroS) w e w' :=
  ⟨none, 0, he, Or.inl rfl, hb⟩
theorem reel_boxes {w W : World} {c : Array Value} (hW : (w.alloc (.cells c 94)).alloc (.cells (newerC 0 0 0 0 (.slice none 0 0)) 90) = W) :
    Below w.heap.size w W ∧ W.heap.size = w.heap.size + 2 ∧ W.heap[w.heap.size]? = some (.cells c 94) ∧ W.heap[w.heap.size + 1]? = some (.cells (newerC 0 0 0 0 (.slice none 0 0)) 90) := by
  refine ⟨?_, ?_, ?_, ?_⟩
  · rw [← hW]; exact ((Below.refl _ w).alloc (Nat.le_refl _) _).alloc (by simp [go_sem]) _
  · rw [← hW]; simp [go_sem]
  · rw [← hW, heap_alloc_old _ _ (by simp [go_sem])]
    exact heap_alloc_new w _
  · have e : w.heap.size + 1 = (w.alloc (.cells c 94)).heap.size := by simp [go_sem]
    rw [← hW, e]
    exact heap_alloc_new _ _
theorem reel_cells {w : World} {b : Nat} {a0 a1 a2 a3 a4 a5 : Value} (h : w.heap[b]? = some (.cells #[a0, a1, a2, a3, a4, a5] 94)) :
    w.cell? ⟨b, 0, none⟩ = some a0 ∧ w.cell? ⟨b, 1, none⟩ = some a1 ∧ w.cell? ⟨b, 2, none⟩ = some a2 ∧ w.cell? ⟨b, 3, none⟩ = some a3 ∧ w.cell? ⟨b, 4, none⟩ = some a4 ∧ w.cell? ⟨b, 5, none⟩ = some a5 :=
  ⟨cell_of_row w b 0 _ _ _ h, cell_of_row w b 1 _ _ _ h, cell_of_row w b 2 _ _ _ h, cell_of_row w b 3 _ _ _ h, cell_of_row w b 4 _ _ _ h, cell_of_row w b 5 _ _ _ h⟩
end Go.Proofs.Ytmnddahkbmlibaa
namespace Go.Proofs.Ytmnddahkbmlibaa
open Go.RowKit Go.Maps
def tooU : List Int := [1, 0, 2, 3, 3, 8, 0, 0, 0, 0, 0]
def tooV : List Int := [2, 1, 1, 5, 3, 5, 0, 0, 0, 0, 0]
def tooQ : List Int := [0, 2, 1, 2, 0, 0]
def tooS0 : St := ⟨0, 0, 0, 3, [], [tooU, tooV], []⟩
theorem too_c : outCN tooS0 [tooQ] = 0 := by decide +kernel
theorem too_l : (outSN tooS0 [tooQ]).es.length = 2 := by decide +kernel
theorem too_x : fld (rec (outSN tooS0 [tooQ]).es 1) 5 = 3 := by decide +kernel
abbrev tooC : Array Value := #[.int .i64 1, .int .i64 0, .int .i64 2, .int .i64 3, .int .i64 3, .int .i64 8, .int .i64 0, .int .i64 0, .int .i64 0, .int .i64 0, .int .i64 0, .int .i64 2, .int .i64 1, .int .i64 1, .int .i64 5, .int .i64 3, .int .i64 5, .int .i64 0, .int .i64 0, .int .i64 0, .int .i64 0, .int .i64 0]
theorem tooC_at (i j : Nat) (hi : i < 2) (hj : j < 11) : tooC[i * 11 + j]? = some (.int .i64 (fld (rec [tooU, tooV] i) j)) := by
  match i, hi with
  | 0, _ =>
    match j, hj with
    | 0, _ | 1, _ | 2, _ | 3, _ | 4, _ | 5, _ | 6, _ | 7, _ | 8, _ | 9, _ | 10, _ => rfl
  | 1, _ =>
    match j, hj with
    | 0, _ | 1, _ | 2, _ | 3, _ | 4, _ | 5, _ | 6, _ | 7, _ | 8, _ | 9, _ | 10, _ => rfl
set_option maxRecDepth 100000 in
set_option maxHeartbeats 8000000 in
theorem too_calls (w : World) : Calls Try.prog 49 #[] w fun e w' => e = .returned (.bool true) ∧ Below w.heap.size w w' := by
  obtain ⟨W, hW⟩ : ∃ W, ((w.alloc (.cells tooC 110)).alloc (.cells (newerC 0 0 0 3 (.slice (some ⟨w.heap.size, 0, none⟩) 2 2)) 90)).alloc (.cells (ordC tooQ) 98) = W := ⟨_, rfl⟩
  have hbW : Below w.heap.size w W := by rw [← hW]; exact (((Below.refl _ w).alloc (Nat.le_refl _) _).alloc (by simp [go_sem]) _).alloc (by simp [go_sem]; omega) _
  have hr : Recs W (some ⟨w.heap.size, 0, none⟩) 11 [tooU, tooV] := by
    refine Or.inr ⟨w.heap.size, 0, rfl, fun i hi j hj => ?_⟩
    have hh : W.heap[w.heap.size]? = some (.cells tooC 110) := by
      rw [← hW, heap_alloc_old _ _ (by simp [go_sem]), heap_alloc_old _ _ (by simp [go_sem])]
      exact heap_alloc_new w _
    rw [cell_of_row W _ (0 + i * 11 + j) _ _ _ hh, Nat.zero_add]
    exact tooC_at i j hi hj
  have hq : Recs W (some ⟨w.heap.size + 2, 0, none⟩) 6 [tooQ] := by
    refine Or.inr ⟨w.heap.size + 2, 0, rfl, fun i hi j hj => ?_⟩
    have h0 : i = 0 := by simpa using hi
    subst h0
    have hh : W.heap[w.heap.size + 2]? = some (.cells (ordC tooQ) 98) := by
      have e : w.heap.size + 2 = ((w.alloc (.cells tooC 110)).alloc (.cells (newerC 0 0 0 3 (.slice (some ⟨w.heap.size, 0, none⟩) 2 2)) 90)).heap.size := by simp [go_sem]
      rw [← hW, e]
      exact heap_alloc_new _ _
    rw [cell_of_row W _ (0 + 0 * 6 + j) _ _ _ hh]
    have e : 0 + 0 * 6 + j = j := by omega
    rw [e]
    match j, hj with
    | 0, _ | 1, _ | 2, _ | 3, _ | 4, _ | 5, _ => rfl
  have hin : InW W tooS0 (some ⟨w.heap.size, 0, none⟩) 2 := ⟨(fun h => by cases h), Nat.le_refl _, hr, rfl, rfl⟩
  have HSA : Hid (Calls Try.prog 52 #[.agg #[.int .i64 0, .int .i64 0, .int .i64 0, .int .i64 3, .slice (some ⟨w.heap.size, 0, none⟩) 2 2], .slice (some ⟨w.heap.size + 1 + 1, 0, none⟩) 1 1] (((w.alloc (.cells tooC 110)).alloc (.cells #[.int .i64 0, .int .i64 0, .int .i64 0, .int .i64 3, .slice (some ⟨w.heap.size, 0, none⟩) 2 2] 90)).alloc (.cells #[.int .i64 0, .int .i64 2, .int .i64 1, .int .i64 2, .int .i64 0, .int .i64 0] 98)) (AnsN errV tooS0 [tooQ] W)) := by
    have h := stepN_all tooS0 (some ⟨w.heap.size, 0, none⟩) (some ⟨w.heap.size + 2, 0, none⟩) 2 1 [tooQ] W hin hq
    rw [← hW] at h ⊢
    exact h
  have HBW := hid hbW
  clear hbW hr hq hin hW
  go_enter Try.func49, Try.ntmps49
  go_wp2_with fail
  refine HSA.out.mono ?_
  rintro e w5 ⟨uv, rfl, h1, hb5⟩
  obtain ⟨ea5, ec5, rfl, _, hr5, _⟩ := h1.open
  have hl := too_l
  have hx := too_x
  rw [too_c, errV_zero]
  generalize outSN tooS0 [tooQ] = T at hr5 hl hx ⊢
  obtain ⟨b, o, rfl, hc⟩ := hr5.at (i := 1) (by rw [hl]; decide)
  have c3 : w5.cell? ⟨b, o + 16, none⟩ = some (.int .i64 3) := by
    have := hc 5 (by omega)
    rw [hx] at this
    simpa using this
  have hbl : b < w5.heap.size := World.block_lt_of_cell? w5 _ c3
  have HB5 : Hid (Below w.heap.size w w5) := HBW.out.trans (hb5.mono HBW.out.size)
  rw [hl]
  obtain ⟨V, hV⟩ : ∃ V, w5.alloc (.cells (newerC T.t T.g0 T.g1 T.nx (.slice (some ⟨b, o, none⟩) 2 ec5)) 90) = V := ⟨_, rfl⟩
  have hbV : Below w5.heap.size w5 V := by rw [← hV]; exact (Below.refl _ _).alloc (Nat.le_refl _) _
  have hhV : V.heap[w5.heap.size]? = some (.cells (newerC T.t T.g0 T.g1 T.nx (.slice (some ⟨b, o, none⟩) 2 ec5)) 90) := by rw [← hV]; exact heap_alloc_new _ _
  obtain ⟨_, _, _, _, v4, _⟩ := five_cells hhV
  have d3 : V.cell? ⟨b, o + 16, none⟩ = some (.int .i64 3) := (hbV.cell (p := ⟨b, o + 16, none⟩) hbl).trans c3
  have HBV : Hid (Below w.heap.size w V) := HB5.out.trans (hbV.mono HB5.out.size)
  have HSM := hid (same_calls 0 0 (by omega) (by omega) V)
  clear h1 hb5 hr5 hc c3 hbV hhV hl hx HSA
  go_wp2_with fail
  refine HSM.out.mono ?_
  rintro e w6 ⟨rfl, rfl⟩
  go_wp2
  go_ret
  exact ⟨rfl, HBV.out⟩
def LightA (s : St) (ls : List (List (List Int))) (w : World) (e : Ending) (w' : World) : Prop := ∃ b, e = .returned (.bool b) ∧ (b = true → ls.length ≤ 70 ∧ s.es.length ≤ 25) ∧ Below w.heap.size w w'
set_option maxRecDepth 100000 in
set_option maxHeartbeats 4000000 in
theorem lightReel_calls (s : St) (ua ta : Option Addr) (uc tc : Nat) (ls : List (List (List Int))) (w : World) (ht : TksN w ta ls) :
    Calls Try.prog 50 #[reelV s.t s.g0 s.g1 s.nx (.slice ua s.es.length uc) (.slice ta ls.length tc)] w (LightA s ls w) := by
  obtain ⟨W, hW⟩ : ∃ W, w.alloc (.cells (reelC s.t s.g0 s.g1 s.nx (.slice ua s.es.length uc) (.slice ta ls.length tc)) 94) = W := ⟨_, rfl⟩
  have hbW : Below w.heap.size w W := by rw [← hW]; exact (Below.refl _ w).alloc (Nat.le_refl _) _
  have hh0 : W.heap[w.heap.size]? = some (.cells (reelC s.t s.g0 s.g1 s.nx (.slice ua s.es.length uc) (.slice ta ls.length tc)) 94) := by rw [← hW]; exact heap_alloc_new _ _
  obtain ⟨x0, x1, x2, x3, x4, x5⟩ := reel_cells hh0
  have HT := hid (ht.below hbW)
  have HBW := hid hbW
  clear ht hbW hh0
  by_cases h70 : ls.length ≤ 70
  case neg =>
    have hz : (70 : Int) < (ls.length : Int) := by omega
    go_enter Try.func50, Try.ntmps50
    go_wp2
    go_ret
    exact ⟨false, rfl, (fun h => by cases h), HBW.out⟩
  case pos =>
    have hz : ¬ (70 : Int) < (ls.length : Int) := by omega
    go_enter Try.func50, Try.ntmps50
    go_wp2_with fail
    go_loopw [3] (fun i wr => ∃ k : Nat, k ≤ ls.length ∧ i = .int .i64 k ∧ wr = W) (fun i _ => ls.length - (intOf i).toNat)
    case atStart => exact ⟨0, Nat.zero_le _, rfl, rfl⟩
    case round =>
      obtain ⟨k, hk, rfl, rfl⟩ := hrel
      by_cases hkl : k < ls.length
      · have hkz : (k : Int) < (ls.length : Int) := by omega
        obtain ⟨b, o, la, lc, rfl, hcell, _⟩ := HT.out.at hkl
        generalize ls.getD k [] = l at hcell
        by_cases h12 : l.length ≤ 12
        · have h12z : ¬ (12 : Int) < (l.length : Int) := by omega
          go_wp2
          go_roundw
          case rel => exact ⟨k + 1, by omega, by go_num, trivial⟩
          case measure => simp [intOf]; omega
        · have h12z : (12 : Int) < (l.length : Int) := by omega
          go_wp2
          go_ret
          exact ⟨false, rfl, (fun h => by cases h), HBW.out⟩
      · have hkz : ¬ (k : Int) < (ls.length : Int) := by omega
        by_cases h25 : s.es.length ≤ 25
        · have h25z : (s.es.length : Int) ≤ 25 := by omega
          go_wp2
          go_ret
          exact ⟨true, rfl, (fun _ => ⟨h70, h25⟩), HBW.out⟩
        · have h25z : ¬ (s.es.length : Int) ≤ 25 := by omega
          go_wp2
          go_ret
          exact ⟨false, rfl, (fun h => by cases h), HBW.out⟩
end Go.Proofs.Ytmnddahkbmlibaa
