/- A tick under way: a row is moved within itself. -/
import Derived.Laws.IdiomCopy
import Derived.Test.YtmnddahkbmlibaaNsRecA
import Derived.Test.YtmnddahkbmlibaaNsMemA
import Derived.Test.YtmnddahkbmlibaaNsRefBA
import Derived.Test.YtmnddahkbmlibaaNsRefEA
namespace Go.Proofs.Ytmnddahkbmlibaa
open Go.RowKit Go.Maps
end Go.Proofs.Ytmnddahkbmlibaa
namespace Go.Proofs.Ytmnddahkbmlibaa
open Go.RowKit Go.Maps
theorem row_row_ne {w : World} {b1 b2 : Nat} {e1 e2 : TypeId} {s1 s2 : Nat} {v1 v2 : Value} {n1 n2 : Nat} {x1 x2 : List Value} (h1 : w.ownsRow b1 e1 s1 v1 n1 x1) (h2 : w.ownsRow b2 e2 s2 v2 n2 x2) (he : e2 ≠ e1) : v1.ownBlock = none ∨ v1.ownBlock ≠ v2.ownBlock := by
  rcases h2.2 with ⟨rfl, _⟩ | ⟨g, cap, cur, rfl, hbg, hgg, rest⟩
  · by_cases h : v1.ownBlock = none
    · exact Or.inl h
    · exact Or.inr h
  · exact Or.inr (row_ne h1 hgg he)
end Go.Proofs.Ytmnddahkbmlibaa
namespace Go.Proofs.Ytmnddahkbmlibaa
open Go.RowKit Go.Maps
theorem Fr.drew {a b : World} {p : Nat} (h : Fr a b p) : Fr a b.drew p := ⟨h.1, fun k hk ha => ⟨(h.2 k hk ha).1, (h.2 k hk ha).2.1, fun j v hv => (h.2 k hk ha).2.2 j v hv⟩⟩
end Go.Proofs.Ytmnddahkbmlibaa
namespace Go.Proofs.Ytmnddahkbmlibaa
open Go.RowKit Go.Maps
def goldOf (s : St) (o : Int) : Int := if o = 0 then s.g0 else s.g1
def payS (s : St) (o c : Int) : St := if o = 0 then { s with g0 := s.g0 - c } else { s with g1 := s.g1 - c }
theorem nums_one (w : World) (x : Int) (t : TypeId) : Nums (w.alloc (.cells #[.int .i64 x] t)) (some ⟨w.heap.size, 0, none⟩) [x] := by
  refine Or.inr ⟨w.heap.size, 0, rfl, fun i hi => ?_⟩
  have h0 : i = 0 := by simpa using hi
  subst h0
  rw [World.cell?_alloc_at _ _ _ _ rfl]
  rfl
end Go.Proofs.Ytmnddahkbmlibaa
namespace Go.Proofs.Ytmnddahkbmlibaa
open Go.RowKit Go.Maps
set_option maxRecDepth 100000 in
set_option maxHeartbeats 4000000 in
theorem refIds_calls (p : Nat) (nw : Bool) (ua : Option Addr) (uc : Nat) (us : List (List Int)) (w : World) (h : RG w p nw ua uc us) :
    Calls Try.prog 89 #[.pointer (some ⟨p, 0, none⟩)] w fun e w' => ∃ v, e = .returned v ∧ NRow w.heap.size w' v (idsE us) ∧ Below w.heap.size w w' := by
  have HR := hid h
  have hn := h.len
  clear h
  go_enter Try.func89, Try.ntmps89
  go_wp2_with fail
  go_loopw [3, 4] (fun v i wr => ∃ k : Nat, k ≤ us.length ∧ i = .int .i64 k ∧ Hid (NRow w.heap.size wr v (idsE (us.take k))) ∧ Hid (Below w.heap.size w wr)) (fun _ i _ => us.length - (intOf i).toNat)
  case atStart => exact ⟨0, by omega, rfl, by rw [List.take_zero]; exact World.ownsRow_nil _ _ _ _, Below.refl _ _⟩
  case round =>
    obtain ⟨k, hk, rfl, HO, HB⟩ := hrel
    have u6 := (HR.out.below HB.out).u6
    by_cases hlt : k < us.length
    · obtain ⟨b, o, rfl, hc⟩ := (HR.out.below HB.out).rs.at hlt
      have hc0 : wr.cell? ⟨b, o + k * 11, none⟩ = some (.int .i64 (fld (rec us k) 0)) := hc 0 (by omega)
      clear hc
      have hlt' : (k : Int) < (us.length : Int) := by omega
      have hl : (idsE (us.take k)).length = k := by unfold idsE; rw [List.length_map, List.length_take]; omega
      have hsz := HB.out.size
      have HT := hid (ids_take hlt)
      go_wp2_with (at_builtin; refine wp_nums _ rfl _ _ rfl w.heap.size _ _ rfl (World.ownsRow.alloc HO.out _) (some ⟨wr.heap.size, 0, none⟩) 1 [fld (rec us k) 0] rfl (nums_one wr _ _) (by simp) (by rw [hl]; show k + 1 ≤ 100000; omega) (by simp [go_sem]; omega) ?_
                   intro v9 w9 hr9 hg9 hl9
                   rw [← HT.out] at hr9
                   have HB9 : Hid (Below w.heap.size w w9) := (HB.out.alloc HB.out.size _).grown hg9 (by simp; omega) (fun k hk => (World.ownsRow.lt HO.out k hk).1)
                   have HR9 := hid hr9
                   clear hr9 hg9 hl9)
      go_roundw
      case rel => exact ⟨k + 1, by omega, by go_num, HR9, HB9⟩
      case measure => simp [intOf]; omega
    · have he : k = us.length := by omega
      subst he
      rw [List.take_length] at HO
      go_wp2
      go_ret
      exact ⟨_, rfl, HO.out, HB.out⟩
end Go.Proofs.Ytmnddahkbmlibaa
namespace Go.Proofs.Ytmnddahkbmlibaa
open Go.RowKit Go.Maps
def putS (u : List Int) (a : List (List Int) × Bool) (x : List Int) : List (List Int) × Bool := if (!a.2 && decide (fld u 0 < fld x 0)) = true then (a.1 ++ [u] ++ [x], true) else (a.1 ++ [x], a.2)
def putK (u : List Int) (us : List (List Int)) (k : Nat) : List (List Int) × Bool := (us.take k).foldl (putS u) ([], false)
def putR (u : List Int) (us : List (List Int)) : List (List Int) := if (putK u us us.length).2 = true then (putK u us us.length).1 else (putK u us us.length).1 ++ [u]
theorem putK_succ {u : List Int} {us : List (List Int)} {k : Nat} (h : k < us.length) : putK u us (k + 1) = putS u (putK u us k) (rec us k) := by
  unfold putK
  rw [List.take_add_one, rec_at h, List.foldl_append]
  simp [h]
theorem putK_len (u : List Int) (us : List (List Int)) : ∀ k, k ≤ us.length → (putK u us k).1.length ≤ k + 1 := by
  have key : ∀ k, k ≤ us.length → (putK u us k).1.length = k + (if (putK u us k).2 = true then 1 else 0) := by
    intro k
    induction k with
    | zero => intro _; simp [putK]
    | succ k ih =>
      intro hk
      have := ih (by omega)
      rw [putK_succ (by omega)]
      generalize putK u us k = a at this ⊢
      obtain ⟨l, b⟩ := a
      unfold putS
      split
      next hc =>
        have hb : b = false := by revert hc; cases b <;> simp
        subst hb
        simp at this ⊢
        omega
      · show (l ++ [rec us k]).length = k + 1 + (if b = true then 1 else 0)
        rw [List.length_append]
        have h2 : l.length = k + (if b = true then 1 else 0) := this
        rw [h2]
        show _ + 1 = _
        omega
  intro k hk
  have := key k hk
  split at this <;> omega
theorem recs_oneU (w : World) (u : List Int) (t : TypeId) : Recs (w.alloc (.cells (unitC u) t)) (some ⟨w.heap.size, 0, none⟩) 11 [u] := by
  refine Or.inr ⟨w.heap.size, 0, rfl, fun i hi j hj => ?_⟩
  have h0 : i = 0 := by simpa using hi
  subst h0
  rw [cell_of_row _ _ (0 + 0 * 11 + j) _ _ _ (heap_alloc_new w _)]
  have e : 0 + 0 * 11 + j = j := by omega
  rw [e]
  show (unitC u)[j]? = some (.int .i64 (fld u j))
  match j, hj with
  | 0, _ | 1, _ | 2, _ | 3, _ | 4, _ | 5, _ | 6, _ | 7, _ | 8, _ | 9, _ | 10, _ => rfl
theorem rowU_base {b b' : Nat} {w : World} {v : Value} {us : List (List Int)} (h : RowU b w v us) (hb : b' ≤ b) : RowU b' w v us := by
  refine ⟨h.1, ?_⟩
  rcases h.2 with h' | ⟨g, cap, cur, e, hg, hr⟩
  · exact Or.inl h'
  · exact Or.inr ⟨g, cap, cur, e, Nat.le_trans hb hg, hr⟩
theorem wp_putU {ops : Array Oper} {rest : List Oper} {o : Oper} {a : Act} {Q : Exit → Act → World → Prop} (X W : World) (hgd : o.guard = none) (sO xO : Operand)
    (ho : o.op = .call { callee := .builtin .append, args := #[sO, xO], argTypes := #[88, 88] }) (v : Value) (l : List (List Int)) (hs : a.eval sO = v) (hO : RowU W.heap.size X v l) (hB : Below W.heap.size W X)
    (x : List Int) (hxe : a.eval xO = .slice (some ⟨X.heap.size, 0, none⟩) 1 1) (hl : l.length ≤ 2000)
    (h : ∀ v' w', RowU W.heap.size w' v' (l ++ [x]) → Below W.heap.size W w' → wpList Try.prog ops Q rest (a.put o.dst v') w') : wpList Try.prog ops Q (o :: rest) a (X.alloc (.cells (unitC x) 110)) := by
  have hsz := hB.size
  refine wp_rowsU _ hgd sO xO ho W.heap.size v l hs (World.ownsRow.alloc hO _) (some ⟨X.heap.size, 0, none⟩) 1 [x] hxe (recs_oneU X x _) (by simp) (by show l.length + 1 ≤ 100000; omega) (by simp [go_sem]; omega) ?_
  intro v' w' h1 h2 _
  exact h v' w' h1 ((hB.alloc hB.size _).grown h2 (by simp; omega) (fun k hk => (World.ownsRow.lt hO k hk).1))
set_option maxRecDepth 100000 in
set_option maxHeartbeats 8000000 in
theorem refPut_calls (base p : Nat) (nw : Bool) (s : St) (u : List Int) (w : World) (hn : s.es.length ≤ 1000) (hbs : base ≤ w.heap.size) (h : GrE base w p nw s) :
    Calls Try.prog 142 #[.pointer (some ⟨p, 0, none⟩), unitV u] w fun e w' => e = .returned (.tuple #[]) ∧ GrE base w' p nw { s with es := putR u s.es } ∧ Below base w w' ∧ Fr w w' p := by
  obtain ⟨uv, fv, bv, hG⟩ := h
  obtain ⟨ea, c, rfl, hcap, _, hg0⟩ := hG.er.open
  obtain ⟨W, hW⟩ : ∃ W, w.alloc (.cells (unitC u) 110) = W := ⟨_, rfl⟩
  have hbW : Below w.heap.size w W := by rw [← hW]; exact (Below.refl _ w).alloc (Nat.le_refl _) _
  have hhW : W.heap[w.heap.size]? = some (.cells (unitC u) 110) := by rw [← hW]; exact heap_alloc_new _ _
  have hsW : W.heap.size = w.heap.size + 1 := by rw [← hW]; simp [go_sem]
  have HG := hid (hG.below hbW)
  have HG0 := hid hG
  have HBW := hid hbW
  have HHW := hid hhW
  have HSW := hid hsW
  have HPK : Hid (∀ k, k < s.es.length → putK u s.es (k + 1) = putS u (putK u s.es k) (rec s.es k)) := fun k hk => putK_succ hk
  have HPL := hid (putK_len u s.es)
  have HKU : Hid (∀ wr, Below W.heap.size W wr → ∀ j, wr.cell? ⟨w.heap.size, j, none⟩ = (unitC u)[j]?) := fun wr hb j => unit_box ((hb.block _ (by omega)).trans hhW) j
  have HK6 : Hid (∀ wr, Below W.heap.size W wr → wr.cell? ⟨p, 6, none⟩ = some (.slice ea s.es.length c)) := fun wr hb => ((hG.below hbW).below hb).cell 6
  have HRE : Hid (∀ wr, Below W.heap.size W wr → Recs wr ea 11 s.es) := fun wr hb => by
    obtain ⟨ea', c', e', _, hr, _⟩ := ((hG.below hbW).below hb).er.open
    cases e'
    exact hr
  clear hG hbW hhW hsW hg0
  go_enter Try.func142, Try.ntmps142
  go_wp2_with fail
  go_loopw [4, 5, 6] (fun v0 l i wr => ∃ (k : Nat) (v : Value), k ≤ s.es.length ∧ v = v0 ∧ i = .int .i64 k ∧ l = .bool (putK u s.es k).2 ∧ Hid (RowU W.heap.size wr v (putK u s.es k).1) ∧ Hid (Below W.heap.size W wr)) (fun _ _ i _ => s.es.length - (intOf i).toNat)
  case atStart => exact ⟨0, _, by omega, rfl, rfl, rfl, World.ownsRow_nil _ _ _ _, hW ▸ Below.refl _ _⟩
  case round =>
    obtain ⟨k, v, hk, rfl, rfl, rfl, HO, HB⟩ := hrel
    have u6 := HK6.out wr HB.out
    have y0 : wr.cell? ⟨w.heap.size, 0, none⟩ = some (.int .i64 (fld u 0)) := HKU.out wr HB.out 0
    have hpl := HPL.out k hk
    have hsz := HB.out.size
    by_cases hlt : k < s.es.length
    · obtain ⟨b, o, rfl, _⟩ := (HRE.out wr HB.out).at hlt
      have hlt' : (k : Int) < (s.es.length : Int) := by omega
      have hpk0 := HPK.out k hlt
      have HKT0 : Hid (∀ wr, Below W.heap.size W wr → ∀ j, j < 11 → wr.cell? ⟨b, o + k * 11 + j, none⟩ = some (.int .i64 (fld (rec s.es k) j))) := fun wr hb j hj => by
        obtain ⟨b', o', e', hc'⟩ := (HRE.out wr hb).at hlt
        cases e'
        exact hc' j hj
      generalize rec s.es k = t at hpk0 HKT0
      have HKT := HKT0
      clear HKT0 y0 u6
      generalize hpa : putK u s.es k = pa at hpk0 HO hpl ⊢
      obtain ⟨l, bb⟩ := pa
      have hpl : l.length ≤ k + 1 := hpl
      have HO : Hid (RowU W.heap.size wr v l) := HO
      have u6 := HK6.out wr HB.out
      have x0 : wr.cell? ⟨w.heap.size, 0, none⟩ = some (.int .i64 (fld u 0)) := HKU.out wr HB.out 0
      have x1 : wr.cell? ⟨w.heap.size, 1, none⟩ = some (.int .i64 (fld u 1)) := HKU.out wr HB.out 1
      have x2 : wr.cell? ⟨w.heap.size, 2, none⟩ = some (.int .i64 (fld u 2)) := HKU.out wr HB.out 2
      have x3 : wr.cell? ⟨w.heap.size, 3, none⟩ = some (.int .i64 (fld u 3)) := HKU.out wr HB.out 3
      have x4 : wr.cell? ⟨w.heap.size, 4, none⟩ = some (.int .i64 (fld u 4)) := HKU.out wr HB.out 4
      have x5 : wr.cell? ⟨w.heap.size, 5, none⟩ = some (.int .i64 (fld u 5)) := HKU.out wr HB.out 5
      have x6 : wr.cell? ⟨w.heap.size, 6, none⟩ = some (.int .i64 (fld u 6)) := HKU.out wr HB.out 6
      have x7 : wr.cell? ⟨w.heap.size, 7, none⟩ = some (.int .i64 (fld u 7)) := HKU.out wr HB.out 7
      have x8 : wr.cell? ⟨w.heap.size, 8, none⟩ = some (.int .i64 (fld u 8)) := HKU.out wr HB.out 8
      have x9 : wr.cell? ⟨w.heap.size, 9, none⟩ = some (.int .i64 (fld u 9)) := HKU.out wr HB.out 9
      have x10 : wr.cell? ⟨w.heap.size, 10, none⟩ = some (.int .i64 (fld u 10)) := HKU.out wr HB.out 10
      have c0 : wr.cell? ⟨b, o + k * 11, none⟩ = some (.int .i64 (fld t 0)) := HKT.out wr HB.out 0 (by omega)
      have c1 : wr.cell? ⟨b, o + k * 11 + 1, none⟩ = some (.int .i64 (fld t 1)) := HKT.out wr HB.out 1 (by omega)
      have c2 : wr.cell? ⟨b, o + k * 11 + 2, none⟩ = some (.int .i64 (fld t 2)) := HKT.out wr HB.out 2 (by omega)
      have c3 : wr.cell? ⟨b, o + k * 11 + 3, none⟩ = some (.int .i64 (fld t 3)) := HKT.out wr HB.out 3 (by omega)
      have c4 : wr.cell? ⟨b, o + k * 11 + 4, none⟩ = some (.int .i64 (fld t 4)) := HKT.out wr HB.out 4 (by omega)
      have c5 : wr.cell? ⟨b, o + k * 11 + 5, none⟩ = some (.int .i64 (fld t 5)) := HKT.out wr HB.out 5 (by omega)
      have c6 : wr.cell? ⟨b, o + k * 11 + 6, none⟩ = some (.int .i64 (fld t 6)) := HKT.out wr HB.out 6 (by omega)
      have c7 : wr.cell? ⟨b, o + k * 11 + 7, none⟩ = some (.int .i64 (fld t 7)) := HKT.out wr HB.out 7 (by omega)
      have c8 : wr.cell? ⟨b, o + k * 11 + 8, none⟩ = some (.int .i64 (fld t 8)) := HKT.out wr HB.out 8 (by omega)
      have c9 : wr.cell? ⟨b, o + k * 11 + 9, none⟩ = some (.int .i64 (fld t 9)) := HKT.out wr HB.out 9 (by omega)
      have c10 : wr.cell? ⟨b, o + k * 11 + 10, none⟩ = some (.int .i64 (fld t 10)) := HKT.out wr HB.out 10 (by omega)
      cases bb with
      | true =>
        have hpk : putK u s.es (k + 1) = (l ++ [t], true) := hpk0
        clear hpk0
        go_wp2_with fail
        go_quiet (fail)
        all_goals
          obtain ⟨X, hX⟩ : ∃ X, X = wr.drewN nq := ⟨_, rfl⟩
          have HBX : Hid (Below W.heap.size W X) := by rw [hX]; exact below_drewN HB.out nq
          have HOX : Hid (RowU W.heap.size X v l) := by rw [hX]; exact row_below HO.out (below_drewN (Below.refl _ wr) nq)
          rw [← hX]
          clear hX u6 x0 x1 x2 x3 x4 x5 x6 x7 x8 x9 x10 c0 c1 c2 c3 c4 c5 c6 c7 c8 c9 c10
          have u6 := HK6.out X HBX.out
          have x0 : X.cell? ⟨w.heap.size, 0, none⟩ = some (.int .i64 (fld u 0)) := HKU.out X HBX.out 0
          have x1 : X.cell? ⟨w.heap.size, 1, none⟩ = some (.int .i64 (fld u 1)) := HKU.out X HBX.out 1
          have x2 : X.cell? ⟨w.heap.size, 2, none⟩ = some (.int .i64 (fld u 2)) := HKU.out X HBX.out 2
          have x3 : X.cell? ⟨w.heap.size, 3, none⟩ = some (.int .i64 (fld u 3)) := HKU.out X HBX.out 3
          have x4 : X.cell? ⟨w.heap.size, 4, none⟩ = some (.int .i64 (fld u 4)) := HKU.out X HBX.out 4
          have x5 : X.cell? ⟨w.heap.size, 5, none⟩ = some (.int .i64 (fld u 5)) := HKU.out X HBX.out 5
          have x6 : X.cell? ⟨w.heap.size, 6, none⟩ = some (.int .i64 (fld u 6)) := HKU.out X HBX.out 6
          have x7 : X.cell? ⟨w.heap.size, 7, none⟩ = some (.int .i64 (fld u 7)) := HKU.out X HBX.out 7
          have x8 : X.cell? ⟨w.heap.size, 8, none⟩ = some (.int .i64 (fld u 8)) := HKU.out X HBX.out 8
          have x9 : X.cell? ⟨w.heap.size, 9, none⟩ = some (.int .i64 (fld u 9)) := HKU.out X HBX.out 9
          have x10 : X.cell? ⟨w.heap.size, 10, none⟩ = some (.int .i64 (fld u 10)) := HKU.out X HBX.out 10
          have c0 : X.cell? ⟨b, o + k * 11, none⟩ = some (.int .i64 (fld t 0)) := HKT.out X HBX.out 0 (by omega)
          have c1 : X.cell? ⟨b, o + k * 11 + 1, none⟩ = some (.int .i64 (fld t 1)) := HKT.out X HBX.out 1 (by omega)
          have c2 : X.cell? ⟨b, o + k * 11 + 2, none⟩ = some (.int .i64 (fld t 2)) := HKT.out X HBX.out 2 (by omega)
          have c3 : X.cell? ⟨b, o + k * 11 + 3, none⟩ = some (.int .i64 (fld t 3)) := HKT.out X HBX.out 3 (by omega)
          have c4 : X.cell? ⟨b, o + k * 11 + 4, none⟩ = some (.int .i64 (fld t 4)) := HKT.out X HBX.out 4 (by omega)
          have c5 : X.cell? ⟨b, o + k * 11 + 5, none⟩ = some (.int .i64 (fld t 5)) := HKT.out X HBX.out 5 (by omega)
          have c6 : X.cell? ⟨b, o + k * 11 + 6, none⟩ = some (.int .i64 (fld t 6)) := HKT.out X HBX.out 6 (by omega)
          have c7 : X.cell? ⟨b, o + k * 11 + 7, none⟩ = some (.int .i64 (fld t 7)) := HKT.out X HBX.out 7 (by omega)
          have c8 : X.cell? ⟨b, o + k * 11 + 8, none⟩ = some (.int .i64 (fld t 8)) := HKT.out X HBX.out 8 (by omega)
          have c9 : X.cell? ⟨b, o + k * 11 + 9, none⟩ = some (.int .i64 (fld t 9)) := HKT.out X HBX.out 9 (by omega)
          have c10 : X.cell? ⟨b, o + k * 11 + 10, none⟩ = some (.int .i64 (fld t 10)) := HKT.out X HBX.out 10 (by omega)
          go_wp2_with (at_builtin; refine wp_putU X W (by rfl) (.tmp 35) (.tmp 43) (by rfl) v l (by rfl) HOX.out HBX.out t (by rfl) (by omega) ?_; intro v2 w2 hr2 hb2; have HR2 := hid hr2; have HB2 := hid hb2; clear hr2 hb2)
          go_roundw
          case rel => exact ⟨k + 1, _, by omega, rfl, by go_num, by rw [hpk], by rw [hpk]; exact HR2, HB2⟩
          case measure => simp [intOf]; omega
      | false =>
        by_cases hd : fld u 0 < fld t 0
        · have hpk : putK u s.es (k + 1) = (l ++ [u] ++ [t], true) := by rw [hpk0]; unfold putS; simp [hd]
          have hdd : decide (fld u 0 < fld t 0) = true := decide_eq_true hd
          clear hpk0
          go_wp2_with fail
          go_quiet (fail)
          all_goals
            obtain ⟨X, hX⟩ : ∃ X, X = wr.drewN nq := ⟨_, rfl⟩
            have HBX : Hid (Below W.heap.size W X) := by rw [hX]; exact below_drewN HB.out nq
            have HOX : Hid (RowU W.heap.size X v l) := by rw [hX]; exact row_below HO.out (below_drewN (Below.refl _ wr) nq)
            rw [← hX]
            clear hX u6 x0 x1 x2 x3 x4 x5 x6 x7 x8 x9 x10 c0 c1 c2 c3 c4 c5 c6 c7 c8 c9 c10
            have u6 := HK6.out X HBX.out
            have x0 : X.cell? ⟨w.heap.size, 0, none⟩ = some (.int .i64 (fld u 0)) := HKU.out X HBX.out 0
            have x1 : X.cell? ⟨w.heap.size, 1, none⟩ = some (.int .i64 (fld u 1)) := HKU.out X HBX.out 1
            have x2 : X.cell? ⟨w.heap.size, 2, none⟩ = some (.int .i64 (fld u 2)) := HKU.out X HBX.out 2
            have x3 : X.cell? ⟨w.heap.size, 3, none⟩ = some (.int .i64 (fld u 3)) := HKU.out X HBX.out 3
            have x4 : X.cell? ⟨w.heap.size, 4, none⟩ = some (.int .i64 (fld u 4)) := HKU.out X HBX.out 4
            have x5 : X.cell? ⟨w.heap.size, 5, none⟩ = some (.int .i64 (fld u 5)) := HKU.out X HBX.out 5
            have x6 : X.cell? ⟨w.heap.size, 6, none⟩ = some (.int .i64 (fld u 6)) := HKU.out X HBX.out 6
            have x7 : X.cell? ⟨w.heap.size, 7, none⟩ = some (.int .i64 (fld u 7)) := HKU.out X HBX.out 7
            have x8 : X.cell? ⟨w.heap.size, 8, none⟩ = some (.int .i64 (fld u 8)) := HKU.out X HBX.out 8
            have x9 : X.cell? ⟨w.heap.size, 9, none⟩ = some (.int .i64 (fld u 9)) := HKU.out X HBX.out 9
            have x10 : X.cell? ⟨w.heap.size, 10, none⟩ = some (.int .i64 (fld u 10)) := HKU.out X HBX.out 10
            have c0 : X.cell? ⟨b, o + k * 11, none⟩ = some (.int .i64 (fld t 0)) := HKT.out X HBX.out 0 (by omega)
            have c1 : X.cell? ⟨b, o + k * 11 + 1, none⟩ = some (.int .i64 (fld t 1)) := HKT.out X HBX.out 1 (by omega)
            have c2 : X.cell? ⟨b, o + k * 11 + 2, none⟩ = some (.int .i64 (fld t 2)) := HKT.out X HBX.out 2 (by omega)
            have c3 : X.cell? ⟨b, o + k * 11 + 3, none⟩ = some (.int .i64 (fld t 3)) := HKT.out X HBX.out 3 (by omega)
            have c4 : X.cell? ⟨b, o + k * 11 + 4, none⟩ = some (.int .i64 (fld t 4)) := HKT.out X HBX.out 4 (by omega)
            have c5 : X.cell? ⟨b, o + k * 11 + 5, none⟩ = some (.int .i64 (fld t 5)) := HKT.out X HBX.out 5 (by omega)
            have c6 : X.cell? ⟨b, o + k * 11 + 6, none⟩ = some (.int .i64 (fld t 6)) := HKT.out X HBX.out 6 (by omega)
            have c7 : X.cell? ⟨b, o + k * 11 + 7, none⟩ = some (.int .i64 (fld t 7)) := HKT.out X HBX.out 7 (by omega)
            have c8 : X.cell? ⟨b, o + k * 11 + 8, none⟩ = some (.int .i64 (fld t 8)) := HKT.out X HBX.out 8 (by omega)
            have c9 : X.cell? ⟨b, o + k * 11 + 9, none⟩ = some (.int .i64 (fld t 9)) := HKT.out X HBX.out 9 (by omega)
            have c10 : X.cell? ⟨b, o + k * 11 + 10, none⟩ = some (.int .i64 (fld t 10)) := HKT.out X HBX.out 10 (by omega)
            go_wp2_with (first | (at_builtin; refine wp_putU X W (by rfl) (.tmp 31) (.tmp 33) (by rfl) v l (by rfl) HOX.out HBX.out u (by rfl) (by omega) ?_; intro v1 w1 hr1 hb1; have HR1 := hid hr1; have HB1 := hid hb1; clear hr1 hb1 u6 x0 x1 x2 x3 x4 x5 x6 x7 x8 x9 x10 c0 c1 c2 c3 c4 c5 c6 c7 c8 c9 c10; have u6 := HK6.out w1 HB1.out; have x0 : w1.cell? ⟨w.heap.size, 0, none⟩ = some (.int .i64 (fld u 0)) := HKU.out w1 HB1.out 0; have x1 : w1.cell? ⟨w.heap.size, 1, none⟩ = some (.int .i64 (fld u 1)) := HKU.out w1 HB1.out 1; have x2 : w1.cell? ⟨w.heap.size, 2, none⟩ = some (.int .i64 (fld u 2)) := HKU.out w1 HB1.out 2; have x3 : w1.cell? ⟨w.heap.size, 3, none⟩ = some (.int .i64 (fld u 3)) := HKU.out w1 HB1.out 3; have x4 : w1.cell? ⟨w.heap.size, 4, none⟩ = some (.int .i64 (fld u 4)) := HKU.out w1 HB1.out 4; have x5 : w1.cell? ⟨w.heap.size, 5, none⟩ = some (.int .i64 (fld u 5)) := HKU.out w1 HB1.out 5; have x6 : w1.cell? ⟨w.heap.size, 6, none⟩ = some (.int .i64 (fld u 6)) := HKU.out w1 HB1.out 6; have x7 : w1.cell? ⟨w.heap.size, 7, none⟩ = some (.int .i64 (fld u 7)) := HKU.out w1 HB1.out 7; have x8 : w1.cell? ⟨w.heap.size, 8, none⟩ = some (.int .i64 (fld u 8)) := HKU.out w1 HB1.out 8; have x9 : w1.cell? ⟨w.heap.size, 9, none⟩ = some (.int .i64 (fld u 9)) := HKU.out w1 HB1.out 9; have x10 : w1.cell? ⟨w.heap.size, 10, none⟩ = some (.int .i64 (fld u 10)) := HKU.out w1 HB1.out 10; have c0 : w1.cell? ⟨b, o + k * 11, none⟩ = some (.int .i64 (fld t 0)) := HKT.out w1 HB1.out 0 (by omega); have c1 : w1.cell? ⟨b, o + k * 11 + 1, none⟩ = some (.int .i64 (fld t 1)) := HKT.out w1 HB1.out 1 (by omega); have c2 : w1.cell? ⟨b, o + k * 11 + 2, none⟩ = some (.int .i64 (fld t 2)) := HKT.out w1 HB1.out 2 (by omega); have c3 : w1.cell? ⟨b, o + k * 11 + 3, none⟩ = some (.int .i64 (fld t 3)) := HKT.out w1 HB1.out 3 (by omega); have c4 : w1.cell? ⟨b, o + k * 11 + 4, none⟩ = some (.int .i64 (fld t 4)) := HKT.out w1 HB1.out 4 (by omega); have c5 : w1.cell? ⟨b, o + k * 11 + 5, none⟩ = some (.int .i64 (fld t 5)) := HKT.out w1 HB1.out 5 (by omega); have c6 : w1.cell? ⟨b, o + k * 11 + 6, none⟩ = some (.int .i64 (fld t 6)) := HKT.out w1 HB1.out 6 (by omega); have c7 : w1.cell? ⟨b, o + k * 11 + 7, none⟩ = some (.int .i64 (fld t 7)) := HKT.out w1 HB1.out 7 (by omega); have c8 : w1.cell? ⟨b, o + k * 11 + 8, none⟩ = some (.int .i64 (fld t 8)) := HKT.out w1 HB1.out 8 (by omega); have c9 : w1.cell? ⟨b, o + k * 11 + 9, none⟩ = some (.int .i64 (fld t 9)) := HKT.out w1 HB1.out 9 (by omega); have c10 : w1.cell? ⟨b, o + k * 11 + 10, none⟩ = some (.int .i64 (fld t 10)) := HKT.out w1 HB1.out 10 (by omega)) | (at_builtin; refine wp_putU w1 W (by rfl) (.tmp 35) (.tmp 43) (by rfl) v1 (l ++ [u]) (by rfl) HR1.out HB1.out t (by rfl) (by rw [List.length_append]; show l.length + 1 ≤ 2000; omega) ?_; intro v2 w2 hr2 hb2; have HR2 := hid hr2; have HB2 := hid hb2; clear hr2 hb2))
            go_roundw
            case rel => exact ⟨k + 1, _, by omega, rfl, by go_num, by rw [hpk], by rw [hpk]; exact HR2, HB2⟩
            case measure => simp [intOf]; omega
        · have hpk : putK u s.es (k + 1) = (l ++ [t], false) := by rw [hpk0]; unfold putS; simp [hd]
          have hdd : decide (fld u 0 < fld t 0) = false := decide_eq_false hd
          clear hpk0
          go_wp2_with fail
          go_quiet (fail)
          all_goals
            obtain ⟨X, hX⟩ : ∃ X, X = wr.drewN nq := ⟨_, rfl⟩
            have HBX : Hid (Below W.heap.size W X) := by rw [hX]; exact below_drewN HB.out nq
            have HOX : Hid (RowU W.heap.size X v l) := by rw [hX]; exact row_below HO.out (below_drewN (Below.refl _ wr) nq)
            rw [← hX]
            clear hX u6 x0 x1 x2 x3 x4 x5 x6 x7 x8 x9 x10 c0 c1 c2 c3 c4 c5 c6 c7 c8 c9 c10
            have u6 := HK6.out X HBX.out
            have x0 : X.cell? ⟨w.heap.size, 0, none⟩ = some (.int .i64 (fld u 0)) := HKU.out X HBX.out 0
            have x1 : X.cell? ⟨w.heap.size, 1, none⟩ = some (.int .i64 (fld u 1)) := HKU.out X HBX.out 1
            have x2 : X.cell? ⟨w.heap.size, 2, none⟩ = some (.int .i64 (fld u 2)) := HKU.out X HBX.out 2
            have x3 : X.cell? ⟨w.heap.size, 3, none⟩ = some (.int .i64 (fld u 3)) := HKU.out X HBX.out 3
            have x4 : X.cell? ⟨w.heap.size, 4, none⟩ = some (.int .i64 (fld u 4)) := HKU.out X HBX.out 4
            have x5 : X.cell? ⟨w.heap.size, 5, none⟩ = some (.int .i64 (fld u 5)) := HKU.out X HBX.out 5
            have x6 : X.cell? ⟨w.heap.size, 6, none⟩ = some (.int .i64 (fld u 6)) := HKU.out X HBX.out 6
            have x7 : X.cell? ⟨w.heap.size, 7, none⟩ = some (.int .i64 (fld u 7)) := HKU.out X HBX.out 7
            have x8 : X.cell? ⟨w.heap.size, 8, none⟩ = some (.int .i64 (fld u 8)) := HKU.out X HBX.out 8
            have x9 : X.cell? ⟨w.heap.size, 9, none⟩ = some (.int .i64 (fld u 9)) := HKU.out X HBX.out 9
            have x10 : X.cell? ⟨w.heap.size, 10, none⟩ = some (.int .i64 (fld u 10)) := HKU.out X HBX.out 10
            have c0 : X.cell? ⟨b, o + k * 11, none⟩ = some (.int .i64 (fld t 0)) := HKT.out X HBX.out 0 (by omega)
            have c1 : X.cell? ⟨b, o + k * 11 + 1, none⟩ = some (.int .i64 (fld t 1)) := HKT.out X HBX.out 1 (by omega)
            have c2 : X.cell? ⟨b, o + k * 11 + 2, none⟩ = some (.int .i64 (fld t 2)) := HKT.out X HBX.out 2 (by omega)
            have c3 : X.cell? ⟨b, o + k * 11 + 3, none⟩ = some (.int .i64 (fld t 3)) := HKT.out X HBX.out 3 (by omega)
            have c4 : X.cell? ⟨b, o + k * 11 + 4, none⟩ = some (.int .i64 (fld t 4)) := HKT.out X HBX.out 4 (by omega)
            have c5 : X.cell? ⟨b, o + k * 11 + 5, none⟩ = some (.int .i64 (fld t 5)) := HKT.out X HBX.out 5 (by omega)
            have c6 : X.cell? ⟨b, o + k * 11 + 6, none⟩ = some (.int .i64 (fld t 6)) := HKT.out X HBX.out 6 (by omega)
            have c7 : X.cell? ⟨b, o + k * 11 + 7, none⟩ = some (.int .i64 (fld t 7)) := HKT.out X HBX.out 7 (by omega)
            have c8 : X.cell? ⟨b, o + k * 11 + 8, none⟩ = some (.int .i64 (fld t 8)) := HKT.out X HBX.out 8 (by omega)
            have c9 : X.cell? ⟨b, o + k * 11 + 9, none⟩ = some (.int .i64 (fld t 9)) := HKT.out X HBX.out 9 (by omega)
            have c10 : X.cell? ⟨b, o + k * 11 + 10, none⟩ = some (.int .i64 (fld t 10)) := HKT.out X HBX.out 10 (by omega)
            go_wp2_with (at_builtin; refine wp_putU X W (by rfl) (.tmp 35) (.tmp 43) (by rfl) v l (by rfl) HOX.out HBX.out t (by rfl) (by omega) ?_; intro v2 w2 hr2 hb2; have HR2 := hid hr2; have HB2 := hid hb2; clear hr2 hb2)
            go_roundw
            case rel => exact ⟨k + 1, _, by omega, rfl, by go_num, by rw [hpk], by rw [hpk]; exact HR2, HB2⟩
            case measure => simp [intOf]; omega
    · have he : k = s.es.length := by omega
      subst he
      have HPR : Hid (putR u s.es = if (putK u s.es s.es.length).2 = true then (putK u s.es s.es.length).1 else (putK u s.es s.es.length).1 ++ [u]) := rfl
      have HBb : Hid (∀ wq, Below W.heap.size W wq → Below base w wq) := fun wq hb => (HBW.out.trans (hb.mono (by rw [HSW.out]; omega))).mono hbs
      have HFI : Hid (∀ wq v, Below W.heap.size W wq → RowU W.heap.size wq v (putR u s.es) → GrE base (wq.setCell ⟨p, 6, none⟩ v) p nw { s with es := putR u s.es } ∧ Below base w (wq.setCell ⟨p, 6, none⟩ v) ∧ Fr w (wq.setCell ⟨p, 6, none⟩ v) p) := fun wq v hb hr => by
        have hg := HG.out.below hb
        have hg2 := hg.pset 6 v (s' := { s with es := putR u s.es }) (uv' := v) rfl (rowU_base hr (by rw [HSW.out]; omega)) hg.fr hg.br hg.fb
        refine ⟨⟨_, _, _, hg2⟩, (HBb.out wq hb).setCell (p := ⟨p, 6, none⟩) hg.bp v, HG0.out.frame hg2 ?_ (fun k hk hkp _ _ _ => ?_) (fun k hk => Or.inr ?_) (fun k hk => Or.inl hk) (fun k hk => Or.inl hk)⟩
        · have := hb.size; rw [HSW.out] at this; simp; omega
        · rw [heap_setCell_other wq ⟨p, 6, none⟩ k v (fun e => hkp e), hb.block k (by rw [HSW.out]; omega), HBW.out.block k hk]
        · have := (World.ownsRow.lt hr k hk).1; rw [HSW.out] at this; omega
      have HFZ : Hid (∀ wq, Below W.heap.size W wq → wq.frozen? ⟨p, 6, none⟩ = false) := fun wq hb => (HG.out.below hb).frozen 6
      generalize putK u s.es s.es.length = pa at HPR HO hpl ⊢
      obtain ⟨l, bb⟩ := pa
      have hpl : l.length ≤ s.es.length + 1 := hpl
      have HO : Hid (RowU W.heap.size wr v l) := HO
      cases bb with
      | true =>
        have HPQ : Hid (putR u s.es = l) := HPR.out
        have HF := hid (HFI.out wr v HB.out (by rw [HPQ.out]; exact HO.out))
        have z6 := HFZ.out wr HB.out
        obtain ⟨va, vc, rfl, _, _, _⟩ := HO.out.open
        go_wp2
        go_end0
        exact ⟨rfl, HF.out.1, HF.out.2.1, HF.out.2.2⟩
      | false =>
        have HPQ : Hid (putR u s.es = l ++ [u]) := HPR.out
        have x0 : wr.cell? ⟨w.heap.size, 0, none⟩ = some (.int .i64 (fld u 0)) := HKU.out wr HB.out 0
        have x1 : wr.cell? ⟨w.heap.size, 1, none⟩ = some (.int .i64 (fld u 1)) := HKU.out wr HB.out 1
        have x2 : wr.cell? ⟨w.heap.size, 2, none⟩ = some (.int .i64 (fld u 2)) := HKU.out wr HB.out 2
        have x3 : wr.cell? ⟨w.heap.size, 3, none⟩ = some (.int .i64 (fld u 3)) := HKU.out wr HB.out 3
        have x4 : wr.cell? ⟨w.heap.size, 4, none⟩ = some (.int .i64 (fld u 4)) := HKU.out wr HB.out 4
        have x5 : wr.cell? ⟨w.heap.size, 5, none⟩ = some (.int .i64 (fld u 5)) := HKU.out wr HB.out 5
        have x6 : wr.cell? ⟨w.heap.size, 6, none⟩ = some (.int .i64 (fld u 6)) := HKU.out wr HB.out 6
        have x7 : wr.cell? ⟨w.heap.size, 7, none⟩ = some (.int .i64 (fld u 7)) := HKU.out wr HB.out 7
        have x8 : wr.cell? ⟨w.heap.size, 8, none⟩ = some (.int .i64 (fld u 8)) := HKU.out wr HB.out 8
        have x9 : wr.cell? ⟨w.heap.size, 9, none⟩ = some (.int .i64 (fld u 9)) := HKU.out wr HB.out 9
        have x10 : wr.cell? ⟨w.heap.size, 10, none⟩ = some (.int .i64 (fld u 10)) := HKU.out wr HB.out 10
        go_wp2_with (at_builtin; refine wp_putU wr W (by rfl) (.tmp 47) (.tmp 49) (by rfl) v l (by rfl) HO.out HB.out u (by rfl) (by omega) ?_; intro v2 w2 hr2 hb2; have HF := hid (HFI.out w2 v2 hb2 (by rw [HPQ.out]; exact hr2)); have z6 := HFZ.out w2 hb2; have z7 := HK6.out w2 hb2; obtain ⟨va, vc, rfl, _, _, _⟩ := hr2.open; clear hr2 hb2)
        go_end0
        have hlv : (l ++ [u]).length = l.length + 1 := by rw [List.length_append]; rfl
        rw [hlv] at HF
        exact ⟨rfl, HF.out.1, HF.out.2.1, HF.out.2.2⟩
end Go.Proofs.Ytmnddahkbmlibaa
namespace Go.Proofs.Ytmnddahkbmlibaa
open Go.RowKit Go.Maps
def headR (nw : Bool) (s : St) : Bool := decide (s.t < 0) || (decide (60 < s.t) || (decide (s.nx < 1) || (decide (topZ nw + 1 < s.nx) || (decide (s.g0 < 0) || (decide (richZ nw < s.g0) || (decide (s.g1 < 0) || decide (richZ nw < s.g1)))))))
def manyR (s : St) : Bool := decide (20 < (s.es.length : Int)) || decide (200 < (s.free.length : Int))
def orderR (s : St) (i : Nat) : Bool := decide (s.nx ≤ fld (rec s.es i) 0) || (decide (0 < (i : Int)) && decide (fld (rec s.es i) 0 ≤ fld (rec s.es (i - 1)) 0))
def sameR (u v : List Int) : Bool := fld u 3 == fld v 3 && fld u 4 == fld v 4
def placeR (es : List (List Int)) (i : Nat) : Bool := (List.range i).any fun k => sameR (rec es k) (rec es i)
def oneAtR (nw : Bool) (s : St) (i : Nat) : Int :=
  if 0 < oneR nw s.t (rec s.es i) then oneR nw s.t (rec s.es i) else if orderR s i = true then 3 else if placeR s.es i = true then 3 else 0
def aimBadR (nw : Bool) (es : List (List Int)) (i : Nat) : Bool :=
  decide (fld (rec es i) 9 ≠ 0) && (decide (whoZ (fld (rec es i) 9) es < 0) || mayZ nw (rec es i) (rec es (whoZ (fld (rec es i) 9) es).toNat) != fld (rec es i) 6)
def cntR (s : St) (id : Int) : Int := (s.free.count id : Int) + (if 0 ≤ whoZ id s.es then 1 else 0)
def freeR (s : St) : Int := if ∀ j, j < (s.nx - 1).toNat → cntR s ((j : Int) + 1) = 1 then (if (s.free.length : Int) + (s.es.length : Int) = s.nx - 1 then 0 else 3) else 3
def firstR (nw : Bool) (s : St) : Nat := firstE s.es.length fun i => (oneAtR nw s i).toNat
def tailR (nw : Bool) (s : St) : Int := if firstR nw s = 0 then (if ∀ i, i < s.es.length → aimBadR nw s.es i = false then (if nw = true then 0 else freeR s) else 3) else (firstR nw s : Int)
def faultR (nw : Bool) (s : St) : Int := if headR nw s = true then 1 else if manyR s = true then 2 else tailR nw s
theorem oneR_bd (nw : Bool) (t : Int) (u : List Int) : 0 ≤ oneR nw t u ∧ oneR nw t u ≤ 3 := by
  unfold oneR shapeR
  split
  · omega
  · split
    · omega
    · split <;> omega
structure FG (w : World) (p : Nat) (nw : Bool) (s : St) (ua fa : Option Addr) (uc fc : Nat) (bv : Value) : Prop where
  hp : w.heap[p]? = some (.cells (refC nw s (.slice fa s.free.length fc) (.slice ua s.es.length uc) bv) 147)
  ur : Recs w ua 11 s.es
  fr : Nums w fa s.free
section
variable {w w' : World} {p : Nat} {nw : Bool} {s : St} {ua fa : Option Addr} {uc fc : Nat} {bv : Value}
theorem FG.lt (h : FG w p nw s ua fa uc fc bv) : p < w.heap.size := (Array.getElem?_eq_some_iff.1 h.hp).1
theorem FG.below (h : FG w p nw s ua fa uc fc bv) (hb : Below w.heap.size w w') : FG w' p nw s ua fa uc fc bv :=
  ⟨(hb.block p h.lt).trans h.hp, h.ur.below hb, h.fr.below hb⟩
theorem FG.seven (h : FG w p nw s ua fa uc fc bv) : w.cell? ⟨p, 0, none⟩ = some (.bool nw) ∧ w.cell? ⟨p, 1, none⟩ = some (.int .i64 s.t) ∧ w.cell? ⟨p, 2, none⟩ = some (.int .i64 s.g0) ∧ w.cell? ⟨p, 3, none⟩ = some (.int .i64 s.g1) ∧ w.cell? ⟨p, 4, none⟩ = some (.int .i64 s.nx) ∧ w.cell? ⟨p, 5, none⟩ = some (.slice fa s.free.length fc) ∧ w.cell? ⟨p, 6, none⟩ = some (.slice ua s.es.length uc) :=
  ⟨cell_of_row w p 0 _ _ _ h.hp, cell_of_row w p 1 _ _ _ h.hp, cell_of_row w p 2 _ _ _ h.hp, cell_of_row w p 3 _ _ _ h.hp, cell_of_row w p 4 _ _ _ h.hp, cell_of_row w p 5 _ _ _ h.hp, cell_of_row w p 6 _ _ _ h.hp⟩
end
theorem GrE.fg {base : Nat} {w : World} {p : Nat} {nw : Bool} {s : St} (h : GrE base w p nw s) : ∃ ua fa uc fc bv, FG w p nw s ua fa uc fc bv := by
  obtain ⟨uv, fv, bv, h⟩ := h
  obtain ⟨ea, c, rfl, _, hr, _⟩ := h.er.open
  obtain ⟨fa, fc, rfl, _, hf, _⟩ := h.fr.open
  exact ⟨ea, fa, c, fc, bv, h.hp, hr, hf⟩
theorem top_wrap (nw : Bool) : IntKind.i64.wrap (topZ nw + 1) = topZ nw + 1 := by cases nw <;> rfl
set_option maxRecDepth 100000 in
set_option maxHeartbeats 8000000 in
theorem fault_head (p : Nat) (nw : Bool) (s : St) (ua fa : Option Addr) (uc fc : Nat) (bv : Value) (w : World) (h : FG w p nw s ua fa uc fc bv) (hh : headR nw s = true) :
    Calls Try.prog 44 #[.pointer (some ⟨p, 0, none⟩)] w fun e w' => e = .returned (.int .i64 1) ∧ Below w.heap.size w w' := by
  obtain ⟨c0, c1, c2, c3, c4, c5, c6⟩ := h.seven
  have HC0 := hid c0
  have hr := topZ_bd nw
  have hwr := top_wrap nw
  clear h
  go_enter Try.func44, Try.ntmps44
  go_wp2_with fail
  refine (bounds_calls p nw _ HC0.out).mono ?_
  rintro e w1 ⟨rfl, rfl⟩
  clear c0 c5 c6
  unfold headR at hh
  rcases tf (decide (s.t < 0)) (tf (decide (60 < s.t)) (tf (decide (s.nx < 1)) (tf (decide (topZ nw + 1 < s.nx)) (tf (decide (s.g0 < 0)) (tf (decide (richZ nw < s.g0)) (tf (decide (s.g1 < 0)) trivial)))))) with h1 | ⟨h1, h2 | ⟨h2, h3 | ⟨h3, h4 | ⟨h4, h5 | ⟨h5, h6 | ⟨h6, h7 | ⟨h7, _⟩⟩⟩⟩⟩⟩⟩
  case inr.inr.inr.inr.inr.inr.inr =>
    have h8 : decide (richZ nw < s.g1) = true := by simpa only [h1, h2, h3, h4, h5, h6, h7, Bool.false_or] using hh
    clear hh
    go_wp2
    go_ret
    exact ⟨rfl, Below.refl _ _⟩
  all_goals
    clear hh
    go_wp2
    go_ret
    exact ⟨rfl, Below.refl _ _⟩
end Go.Proofs.Ytmnddahkbmlibaa
