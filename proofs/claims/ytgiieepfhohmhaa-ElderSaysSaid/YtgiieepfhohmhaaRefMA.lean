/- The reference's game and the program's, held against each other: commands. -/
import Derived.Test.YtgiieepfhohmhaaOkA
import Derived.Test.YtgiieepfhohmhaaRefL
import Derived.Test.YtgiieepfhohmhaaRefEA
namespace Go.Proofs.Ytgiieepfhohmhaa
open Go.RowKit Go.Maps

def stopR (s : St) (i : Nat) : St := { s with es := s.es.set i (tellR (rec s.es i) 0 0 0 0) }
def doR (s : St) (q : List Int) (i : Nat) : St :=
  if fld q 1 = 1 then goesR false s i (fld q 4) (fld q 5)
  else if fld q 1 = 2 then aimsR false s i (fld q 6) 2
  else if fld q 1 = 3 then aimsR false s i (fld q 6) 3
  else if fld q 1 = 4 then buildR false s (rec s.es i) (fld q 3) (fld q 4) (fld q 5)
  else if fld q 1 = 5 then stopR s i
  else s
def cmdR (s : St) (q : List Int) : St :=
  if whoZ (fld q 2) s.es < 0 then s
  else if fld (rec s.es (whoZ (fld q 2) s.es).toNat) 1 = fld q 0 then doR s q (whoZ (fld q 2) s.es).toNat
  else s
def cmdsR (s : St) (l : List (List Int)) : St := l.foldl cmdR s

theorem tellU (u : List Int) (d x y t : Int) : tellR (unitE u) d x y t = unitE (updR 10 (updR 10 (updR 10 (updR 10 u 6 d) 7 x) 8 y) 9 t) := rfl
theorem setU (es : List (List Int)) (i : Nat) (v : List Int) : (es.map unitE).set i (unitE v) = (es.set i v).map unitE := by rw [List.map_set]
theorem stopU (s : St) {i : Nat} (hi : i < s.es.length) : stopR (upS s) i = upS (stopS s i) := by
  unfold stopR stopS upS
  simp only [recU hi, tellU, setU]
  rfl
theorem goU (s : St) {i : Nat} (hi : i < s.es.length) (x y : Int) : goesR false (upS s) i x y = upS (goS s i x y) := by
  have hr : rec (upS s).es i = unitE (rec s.es i) := recU hi
  unfold goesR goS
  rw [hr]
  have e : fld (ruleL false (fld (unitE (rec s.es i)) 2)) 2 = Pl.eSpeed (fld (rec s.es i) 2) := rfl
  rw [e]
  split
  · have h2 : tellR (unitE (rec s.es i)) 1 x y 0 = unitE (updR 10 (updR 10 (turnR (rec s.es i) 1) 7 x) 8 y) := rfl
    rw [h2]
    unfold upS
    simp only [setU]
  · rfl
theorem aimU2 (s : St) {i : Nat} (hi : i < s.es.length) (t : Int) {d : Int} (hd : d = 2 ∨ d = 3) : aimsR false (upS s) i t d = upS (aimS s i d t) := by
  have hr : rec (upS s).es i = unitE (rec s.es i) := recU hi
  have hw : whoZ t (upS s).es = idxZ (isId t) s.es := whoU t s.es
  unfold aimsR aimS
  rw [hr, hw, aimE_may]
  by_cases h0 : 0 ≤ idxZ (isId t) s.es
  · have hr2 : rec (upS s).es (idxZ (isId t) s.es).toNat = unitE (rec s.es (idxZ (isId t) s.es).toNat) := recU (idxZ_at h0).1
    rw [hr2, decide_eq_true h0, Bool.true_and]
    by_cases hm : mayE d (rec s.es i) (rec s.es (idxZ (isId t) s.es).toNat) = true
    · rw [if_pos ⟨h0, by omega, (may_is hd _ _).2 hm⟩, if_pos hm]
      have h2 : tellR (unitE (rec s.es i)) d 0 0 t = unitE (updR 10 (turnR (rec s.es i) d) 9 t) := rfl
      rw [h2]
      unfold upS
      simp only [setU]
    · rw [if_neg (fun h => hm ((may_is hd _ _).1 h.2.2)), if_neg hm]
  · rw [if_neg (fun h => h0 h.1), decide_eq_false h0]
    rfl
/- One is laid among the others. -/
theorem putS_true (u : List Int) : ∀ (l acc : List (List Int)), l.foldl (putS u) (acc, true) = (acc ++ l, true)
  | [], acc => by simp
  | x :: l, acc => by
    rw [List.foldl_cons]
    have : putS u (acc, true) x = (acc ++ [x], true) := by unfold putS; simp
    rw [this, putS_true u l]
    simp
theorem idxZ_cons (p : List Int → Bool) (x : List Int) (l : List (List Int)) : idxZ p (x :: l) = if p x = true then 0 else if idxZ p l < 0 then -1 else idxZ p l + 1 := by
  unfold idxZ
  rw [List.findIdx?_cons]
  cases p x with
  | true => rfl
  | false =>
    simp only [Bool.false_eq_true, if_false]
    cases l.findIdx? p with
    | none => rfl
    | some k =>
      show ((k + 1 : Nat) : Int) = if (k : Int) < 0 then -1 else (k : Int) + 1
      rw [if_neg (by omega)]
      rfl
theorem putS_false (u : List Int) : ∀ (l acc : List (List Int)), (let a := l.foldl (putS u) (acc, false); if a.2 = true then a.1 else a.1 ++ [u]) = acc ++ insE l u
  | [], acc => by simp [insE, idxZ]
  | x :: l, acc => by
    show (if (l.foldl (putS u) (putS u (acc, false) x)).2 = true then (l.foldl (putS u) (putS u (acc, false) x)).1 else (l.foldl (putS u) (putS u (acc, false) x)).1 ++ [u]) = _
    by_cases h : fld u 0 < fld x 0
    · have e : putS u (acc, false) x = (acc ++ [u] ++ [x], true) := by unfold putS; simp [h]
      rw [e, putS_true]
      unfold insE
      have hi : idxZ (isAbove (fld u 0)) (x :: l) = 0 := by rw [idxZ_cons, if_pos (show isAbove (fld u 0) x = true from decide_eq_true h)]
      rw [hi]
      simp
    · have e : putS u (acc, false) x = (acc ++ [x], false) := by unfold putS; simp [h]
      rw [e]
      have ih := putS_false u l (acc ++ [x])
      simp only at ih
      rw [ih]
      unfold insE
      rw [idxZ_cons, if_neg (show ¬ isAbove (fld u 0) x = true from fun h' => h (of_decide_eq_true h'))]
      by_cases hz : idxZ (isAbove (fld u 0)) l < 0
      · rw [if_pos hz, if_pos hz, if_pos (by omega)]
        simp
      · rw [if_neg hz, if_neg hz, if_neg (by omega)]
        have : (idxZ (isAbove (fld u 0)) l + 1).toNat = (idxZ (isAbove (fld u 0)) l).toNat + 1 := by omega
        rw [this]
        simp
theorem putR_ins (u : List Int) (us : List (List Int)) : putR u us = insE us u := by
  have h := putS_false u us []
  unfold putR putK
  rw [List.take_length]
  simpa using h
theorem insU (es : List (List Int)) (n : List Int) : insE (es.map unitE) (unitE n) = (insE es n).map unitE := by
  unfold insE
  have hf : fld (unitE n) 0 = fld n 0 := rfl
  rw [hf, idxU (isAbove (fld n 0)) (fun _ => rfl)]
  split
  · simp
  · simp [List.map_take, List.map_drop]
theorem takeU (s : St) : takeR false (upS s) = (takeS s).map fun x => (x.1, upS x.2) := by
  unfold takeR takeS
  have e1 : (upS s).free = s.free := rfl
  have e2 : (upS s).nx = s.nx := rfl
  have e3 : topZ false = 200 := rfl
  rw [e1, e2, e3]
  by_cases h : s.free = []
  · rw [if_pos h, if_pos h]
    by_cases h2 : 200 < s.nx
    · rw [if_pos h2, if_pos h2]; rfl
    · rw [if_neg h2, if_neg h2]; rfl
  · rw [if_neg h, if_neg h]; rfl
theorem buildU (s : St) (u q : List Int) (hl : s.es.length ≤ 20) : buildR false (upS s) (unitE u) (fld q 3) (fld q 4) (fld q 5) = upS (buildS s u q) := by
  have e1 : soonR false (unitE u) (fld q 3) (fld q 4) (fld q 5) = !(Pl.eHas (fld q 3) && (fld q 3 != 4 && (fld u 2 == 1 && Pl.onB (fld q 4) (fld q 5)))) := by
    have e : soonR false (unitE u) (fld q 3) (fld q 4) (fld q 5) = (!Pl.eHas (fld q 3) || (fld q 3 == 4 || (fld u 2 != 1 || !Pl.onB (fld q 4) (fld q 5)))) := rfl
    rw [e, bne, bne]
    cases Pl.eHas (fld q 3) <;> cases (fld q 3 == 4) <;> cases (fld u 2 == 1) <;> cases Pl.onB (fld q 4) (fld q 5) <;> rfl
  have e2 : lateR false (upS s) (unitE u) (fld q 3) (fld q 4) (fld q 5) = !(decide (Pl.farZ (fld u 3) (fld u 4) (fld q 4) (fld q 5) ≤ 1) && (decide (idxZ (isAt (fld q 4) (fld q 5)) s.es < 0) && (decide (Pl.eCost (fld q 3) ≤ goldOf s (fld u 1)) && decide (s.es.length < 20)))) := by
    have e : lateR false (upS s) (unitE u) (fld q 3) (fld q 4) (fld q 5) = (standsB (fld q 4) (fld q 5) (s.es.map unitE) || (decide (1 < Pl.farZ (fld u 3) (fld u 4) (fld q 4) (fld q 5)) || (decide (goldOf s (fld u 1) < Pl.eCost (fld q 3)) || (((s.es.map unitE).length : Int) == 20)))) := rfl
    rw [e, standsU, List.length_map, Bool.eq_iff_iff]
    simp only [Bool.or_eq_true, decide_eq_true_eq, Bool.not_eq_true', Bool.and_eq_false_iff, decide_eq_false_iff_not, beq_iff_eq]
    omega
  unfold buildR buildS
  rw [e1, e2]
  have e3 : mayBuild s u q = ((Pl.eHas (fld q 3) && (fld q 3 != 4 && (fld u 2 == 1 && Pl.onB (fld q 4) (fld q 5)))) && (decide (Pl.farZ (fld u 3) (fld u 4) (fld q 4) (fld q 5) ≤ 1) && (decide (idxZ (isAt (fld q 4) (fld q 5)) s.es < 0) && (decide (Pl.eCost (fld q 3) ≤ goldOf s (fld u 1)) && decide (s.es.length < 20))))) := by
    unfold mayBuild roomE
    simp only [Bool.and_assoc]
  rw [e3]
  generalize (Pl.eHas (fld q 3) && (fld q 3 != 4 && (fld u 2 == 1 && Pl.onB (fld q 4) (fld q 5)))) = a
  generalize (decide (Pl.farZ (fld u 3) (fld u 4) (fld q 4) (fld q 5) ≤ 1) && (decide (idxZ (isAt (fld q 4) (fld q 5)) s.es < 0) && (decide (Pl.eCost (fld q 3) ≤ goldOf s (fld u 1)) && decide (s.es.length < 20)))) = b
  cases a with
  | false => rfl
  | true =>
    cases b with
    | false => rfl
    | true =>
      simp only [Bool.not_true, Bool.false_eq_true, if_false, Bool.and_self, if_true]
      unfold doneR
      rw [takeU]
      cases takeS s with
      | none => rfl
      | some x =>
        obtain ⟨id, s1⟩ := x
        show finR false (upS s).t (unitE u) (fld q 3) (fld q 4) (fld q 5) id (upS s1) = upS { payS s1 (fld u 1) (Pl.eCost (fld q 3)) with es := insE s1.es (newU id (fld u 1) (fld q 3) (fld q 4) (fld q 5)), born := s1.born ++ [id] }
        unfold finR
        rw [putR_ins]
        have e4 : newR false (upS s).t id (fld (unitE u) 1) (fld q 3) (fld q 4) (fld q 5) = unitE (newU id (fld u 1) (fld q 3) (fld q 4) (fld q 5)) := rfl
        have e5 : (upS s1).es = s1.es.map unitE := rfl
        rw [e4, e5, insU]
        have e6 : fld (ruleL false (fld q 3)) 0 = Pl.eCost (fld q 3) := rfl
        have e7 : fld (unitE u) 1 = fld u 1 := rfl
        rw [e6, e7]
        unfold payS upS
        by_cases h : fld u 1 = 0
        · simp only [if_pos h]
        · simp only [if_neg h]
theorem cmdU {s : St} (h : s.es.length ≤ 20) (q : List Int) : cmdR (upS s) q = upS (cmdS s q) := by
  have hw : whoZ (fld q 2) (upS s).es = idxZ (isId (fld q 2)) s.es := whoU _ s.es
  unfold cmdR cmdS
  rw [hw]
  by_cases h0 : idxZ (isId (fld q 2)) s.es < 0
  · rw [if_pos h0, if_pos h0]
  · rw [if_neg h0, if_neg h0]
    have hk := (idxZ_at (show 0 ≤ idxZ (isId (fld q 2)) s.es by omega)).1
    generalize (idxZ (isId (fld q 2)) s.es).toNat = i at hk
    have hr : rec (upS s).es i = unitE (rec s.es i) := recU hk
    have e : fld (rec (upS s).es i) 1 = fld (rec s.es i) 1 := by rw [hr]; rfl
    rw [e]
    split
    · unfold doR doS
      rw [goU s hk, aimU2 s hk _ (Or.inl rfl), aimU2 s hk _ (Or.inr rfl), hr, buildU s _ q h, stopU s hk]
      repeat' split
      all_goals rfl
    · rfl
theorem cmdsU {s : St} (h : Inv s) (hb : s.born = []) (l : List (List Int)) : ∀ k, k ≤ l.length → cmdsR (upS s) (l.take k) = upS (cmdsS s (l.take k)) := by
  intro k
  induction k with
  | zero => intro _; rfl
  | succ k ih =>
    intro hk
    rw [cmds_next s (by omega)]
    have : cmdsR (upS s) (l.take (k + 1)) = cmdR (cmdsR (upS s) (l.take k)) (rec l k) := by
      unfold cmdsR
      rw [take_rec (show k < l.length by omega), List.foldl_append]
      rfl
    rw [this, ih (by omega), cmdU (cmds_inv h hb _).el]
end Go.Proofs.Ytgiieepfhohmhaa

/- The reference's game: who was there; what is kept while one row is written. -/
namespace Go.Proofs.Ytgiieepfhohmhaa
open Go.RowKit Go.Maps

def isB (old : List Int) (id : Int) : Bool := old.any fun x => x == id
theorem isB_true {old : List Int} {id : Int} {k : Nat} (hk : k < old.length) (h : fld old k = id) : isB old id = true := by
  unfold isB
  rw [List.any_eq_true]
  have : fld old k = old[k] := by simp [fld, List.getD_eq_getElem?_getD, hk]
  exact ⟨old[k], List.getElem_mem hk, by rw [← this, h]; simp⟩
theorem isB_false {old : List Int} {id : Int} (h : ∀ k, k < old.length → fld old k ≠ id) : isB old id = false := by
  unfold isB
  rw [List.any_eq_false]
  intro x hx
  obtain ⟨k, hk, rfl⟩ := List.mem_iff_getElem.1 hx
  have : fld old k = old[k] := by simp [fld, List.getD_eq_getElem?_getD, hk]
  have h2 := h k hk
  rw [this] at h2
  simpa using h2

set_option maxHeartbeats 1000000 in
theorem is_calls (B oc : Nat) (oa : Option Addr) (old : List Int) (id : Int) (w : World) (hn : old.length ≤ 1000) (hc : w.cell? ⟨B, 0, none⟩ = some (.slice oa old.length oc)) (hr : Nums w oa old) :
    Calls Try.prog 141 #[.int .i64 id, .pointer (some ⟨B, 0, none⟩)] w fun e w' => e = .returned (.bool (isB old id)) ∧ w' = w := by
  have HR := hid hr
  clear hr
  go_enter Try.func141, Try.ntmps141
  go_wp2_with fail
  go_loop [4] (fun i => ∃ k : Nat, k ≤ old.length ∧ i = .int .i64 k ∧ Hid (∀ i, i < k → fld old i ≠ id)) (fun i => old.length - (intOf i).toNat)
  case atStart => exact ⟨0, by omega, rfl, fun i hi => by omega⟩
  case round =>
    obtain ⟨k, hk, rfl, HN⟩ := hrel
    by_cases hlt : k < old.length
    · obtain ⟨b, o, rfl, hc0⟩ := HR.out.at hlt
      have hlt' : (k : Int) < (old.length : Int) := by omega
      by_cases he : fld old k = id
      · have hb : (fld old k == id) = true := by simpa using he
        have HE : Hid (isB old id = true) := isB_true hlt he
        clear he
        go_wp2
        go_ret
        exact ⟨retB HE.out.symm, rfl⟩
      · have hb : (fld old k == id) = false := by simpa using he
        have HN2 : Hid (∀ i, i < k + 1 → fld old i ≠ id) := fun i hi => by
          by_cases e : i = k
          · rw [e]; exact he
          · exact HN.out i (by omega)
        clear he HN
        go_wp2
        go_round
        case rel => exact ⟨k + 1, by omega, by go_num, HN2⟩
        case measure => simp [intOf]; omega
    · have HE : Hid (isB old id = false) := isB_false fun i hi => HN.out i (by omega)
      clear HN
      go_wp2
      go_ret
      exact ⟨retB HE.out.symm, rfl⟩

/- A row that is turned from its beginning on, by place. -/
def idxK (f : Nat → List Int) (A : List (List Int)) (k : Nat) : List (List Int) := (List.range A.length).map fun j => if j < k then f j else rec A j
theorem idxK_len (f : Nat → List Int) (A : List (List Int)) (k : Nat) : (idxK f A k).length = A.length := by unfold idxK; simp
theorem idxK_rec (f : Nat → List Int) (A : List (List Int)) (k : Nat) {j : Nat} (hj : j < A.length) : rec (idxK f A k) j = if j < k then f j else rec A j := by
  have e : ∀ l : List (List Int), rec l j = l[j]?.getD [] := fun l => by unfold rec; rw [List.getD_eq_getElem?_getD]
  rw [e (idxK f A k)]
  unfold idxK
  rw [List.getElem?_map, List.getElem?_range hj]
  rfl
theorem ext_rec {A B : List (List Int)} (h : A.length = B.length) (g : ∀ j, j < A.length → rec A j = rec B j) : A = B := by
  refine List.ext_getElem h fun j h1 h2 => ?_
  have := g j h1
  rw [rec_at h1, rec_at h2] at this
  exact this
theorem idxK_zero (f : Nat → List Int) (A : List (List Int)) : idxK f A 0 = A := by
  refine ext_rec (idxK_len f A 0) fun j hj => ?_
  rw [idxK_len] at hj
  rw [idxK_rec f A 0 hj, if_neg (by omega)]
theorem rec_setU (A : List (List Int)) (k : Nat) (v : List Int) {j : Nat} (hj : j < A.length) : rec (A.set k v) j = if k = j then v else rec A j := by
  have hj2 : j < (A.set k v).length := by simpa using hj
  rw [rec_at hj2, List.getElem_set, rec_at hj]
theorem idxK_next (f : Nat → List Int) (A : List (List Int)) {k : Nat} : idxK f A (k + 1) = (idxK f A k).set k (f k) := by
  refine ext_rec (by rw [idxK_len, List.length_set, idxK_len]) fun j hj => ?_
  rw [idxK_len] at hj
  rw [idxK_rec f A (k + 1) hj, rec_setU _ _ _ (by rw [idxK_len]; exact hj), idxK_rec f A k hj]
  by_cases e : k = j
  · subst e; rw [if_pos (by omega), if_pos rfl]
  · rw [if_neg e]
    by_cases h : j < k
    · rw [if_pos h, if_pos (by omega)]
    · rw [if_neg h, if_neg (by omega)]
theorem idxK_same (f : Nat → List Int) (A : List (List Int)) {k : Nat} (h : f k = rec A k) : idxK f A (k + 1) = idxK f A k := by
  refine ext_rec (by rw [idxK_len, idxK_len]) fun j hj => ?_
  rw [idxK_len] at hj
  rw [idxK_rec f A (k + 1) hj, idxK_rec f A k hj]
  by_cases e : j = k
  · subst e; rw [if_pos (by omega), if_neg (by omega), h]
  · by_cases h2 : j < k
    · rw [if_pos h2, if_pos (by omega)]
    · rw [if_neg h2, if_neg (by omega)]

/- All that was there is as it was, but one block. -/
def Keep (W : World) (ob : Option Nat) (w : World) : Prop := Below 0 W w ∧ ∀ k, k < W.heap.size → ob ≠ some k → w.heap[k]? = W.heap[k]?
theorem Keep.refl (W : World) (ob : Option Nat) : Keep W ob W := ⟨Below.refl _ _, fun _ _ _ => rfl⟩
theorem Keep.below {W w w' : World} {ob : Option Nat} (h : Keep W ob w) (hb : Below w.heap.size w w') : Keep W ob w' :=
  ⟨h.1.trans (hb.mono (Nat.zero_le _)), fun k hk hn => (hb.block k (Nat.lt_of_lt_of_le hk h.1.size)).trans (h.2 k hk hn)⟩
theorem Keep.set {W w : World} {g : Nat} (h : Keep W (some g) w) (j : Nat) (v : Value) : Keep W (some g) (w.setCell ⟨g, j, none⟩ v) :=
  ⟨h.1.setCell (p := ⟨g, j, none⟩) (Nat.zero_le _) v, fun k hk hn => (heap_setCell_other w ⟨g, j, none⟩ k v (fun e => hn (by rw [e]))).trans (h.2 k hk hn)⟩
theorem Keep.base {W w : World} {ob : Option Nat} {B : Nat} (h : Keep W ob w) (hB : B ≤ W.heap.size) (ho : ∀ k, ob = some k → B ≤ k) : Below B W w :=
  ⟨h.1.os, h.1.tape, h.1.output, h.1.size, fun k hk => h.2 k (by omega) (fun e => by have := ho k e; omega)⟩
theorem Keep.cell {W w : World} {ob : Option Nat} (h : Keep W ob w) {p : Addr} (hp : p.block < W.heap.size) (hn : ob ≠ some p.block) : w.cell? p = W.cell? p := by
  unfold World.cell?
  rw [h.2 p.block hp hn]
theorem tell_exact (base p : Nat) (nw : Bool) (s : St) (i : Nat) (d x y t : Int) (w : World) (g c : Nat) (fv bv : Value) (hi : i < s.es.length) (hG : Gr base w p (.slice (some ⟨g, 0, none⟩) s.es.length c) fv bv nw s) :
    Calls Try.prog 91 #[.pointer (some ⟨p, 0, none⟩), .int .i64 i, .int .i64 d, .int .i64 x, .int .i64 y, .int .i64 t] w fun e w' => e = .returned (.tuple #[]) ∧ w' = tellW w g (i * 11) d x y t := by
  obtain ⟨hc, hf⟩ := hG.er.cells hi
  have l6 := hc 6 (by omega)
  have l7 := hc 7 (by omega)
  have l8 := hc 8 (by omega)
  have l9 := hc 9 (by omega)
  have f6 := hf (i * 11 + 6)
  have f7 := hf (i * 11 + 7)
  have f8 := hf (i * 11 + 8)
  have f9 := hf (i * 11 + 9)
  have c6 : w.cell? ⟨p, 6, none⟩ = some (.slice (some ⟨g, 0, none⟩) s.es.length c) := hG.cell 6
  have hpg : p ≠ g := fun e => row_ne hG.er hG.hp (by decide) (by rw [e]; rfl)
  have hiz : (i : Int) < (s.es.length : Int) := by omega
  have hiz0 : (0 : Int) ≤ (i : Int) := by omega
  clear hc hf hG
  go_enter Try.func91, Try.ntmps91
  go_wp2
  go_end0
  exact ⟨rfl, rfl⟩
end Go.Proofs.Ytgiieepfhohmhaa
