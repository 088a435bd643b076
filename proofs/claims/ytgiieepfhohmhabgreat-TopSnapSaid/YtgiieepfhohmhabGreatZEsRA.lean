/- ElderSays: rows of commands that grow; a play, whole. -/
import Derived.ChangeKeysEq
import Derived.Laws.OwnMore
import Derived.Test.YtgiieepfhohmhabGreatZElA
import Derived.Test.YtgiieepfhohmhabGreatZTnA
namespace Go.Proofs.YtgiieepfhohmhabGreat
open Go.RowKit Go.Maps
def RowC (base : Nat) (w : World) (v : Value) (us : List (List Int)) : Prop := w.ownsRow base 125 7 v us.length (flat 7 us)
theorem RowC.open {base : Nat} {w : World} {v : Value} {us : List (List Int)} (h : RowC base w v us) : ∃ ea c, v = .slice ea us.length c ∧ us.length ≤ c ∧ Recs w ea 7 us ∧ (0 < us.length → ∃ g, ea = some ⟨g, 0, none⟩ ∧ base ≤ g ∧ g < w.heap.size) := by
  have h' := h
  rcases h.2 with ⟨rfl, h0⟩ | ⟨g, cap, cur, rfl, hb, hg, hn, hm, hs, ht⟩
  · refine ⟨none, 0, by rw [h0], by omega, Or.inl (List.eq_nil_of_length_eq_zero h0), fun h => by omega⟩
  · refine ⟨some ⟨g, 0, none⟩, cap, rfl, hn, Or.inr ⟨g, 0, rfl, fun i hi j hj => ?_⟩, fun _ => ⟨g, rfl, hb, (Array.getElem?_eq_some_iff.1 hg).1⟩⟩
    have hlt : i * 7 + j < us.length * 7 := by omega
    rw [Nat.zero_add, World.ownsRow.cellAt h' _ hlt, flat_get hj, if_pos hi]
abbrev zeroCmd : Value := .agg #[.int .i64 0, .int .i64 0, .int .i64 0, .int .i64 0, .int .i64 0, .int .i64 0, .int .i64 0]
theorem info_cmd : (Tryz.prog.info? 125).map (fun i => (i.zero, i.size, i.bytes)) = some (some zeroCmd, 7, 56) := by kernel_rfl
theorem flatC_src {w : World} {b o : Nat} {xs : List (List Int)} (h : ∀ i, i < xs.length → ∀ j, j < 7 → w.cell? ⟨b, o + i * 7 + j, none⟩ = some (.int .i64 (fld (rec xs i) j))) : ∀ j u, (flat 7 xs)[j]? = some u → w.cell? ((⟨b, o, none⟩ : Addr).add j) = some u := by
  intro m u hm
  have e : m = (m / 7) * 7 + m % 7 := by omega
  have hr : m % 7 < 7 := Nat.mod_lt _ (by omega)
  generalize m / 7 = q at e
  generalize m % 7 = r at e hr
  subst e
  rw [flat_get hr] at hm
  split at hm
  next hq =>
    rw [add_off, ← Nat.add_assoc, h q hq r hr]
    exact hm
  · cases hm
theorem rowRunC (w : World) (base : Nat) (ty : TypeId) (v : Value) (es : List (List Int)) (hown : RowC base w v es) (xa : Option Addr) (xc : Nat) (xs : List (List Int)) (hx : Recs w xa 7 xs) (hnil : xa = none → xc = 0)
    (hlen : es.length + xs.length ≤ 100000) (hbase : base ≤ w.heap.size) :
    ∃ v' w', (Builtin.append_ #[79, 79] ty #[v, .slice xa xs.length xc]).run Tryz.prog w = .ok v' w' ∧ RowC base w' v' (es ++ xs) ∧ w.grownBy w' v.ownBlock ∧ (v'.ownBlock = v.ownBlock ∨ v'.ownBlock = some w.heap.size) := by
  obtain ⟨i0, hi, hz0, hz1, hz2⟩ := info_parts info_cmd
  rcases xa with _ | ad
  · have hx0 : xs = [] := by
      rcases hx with h | ⟨b, o, h, _⟩
      · exact h
      · cases h
    subst hx0
    rw [hnil rfl]
    have hrun := run_append_owned_none (P := Tryz.prog) (w := w) base 79 ty 125 i0 7 Tryz.underlying79 hi v _ _ hown
    refine ⟨v, w, hrun, by rw [List.append_nil]; exact hown, ⟨rfl, rfl, rfl, Nat.le_refl _, fun _ _ _ => rfl⟩, Or.inl rfl⟩
  · have hsrc : ∀ j u, (flat 7 xs)[j]? = some u → w.cell? (ad.add j) = some u := by
      rcases hx with h | ⟨b', o', h, hc⟩
      · subst h
        intro j u hj
        simp [flat] at hj
      · cases h
        exact flatC_src hc
    obtain ⟨v', w', hr, h2, h3, h4, h5⟩ := run_append_own_at (P := Tryz.prog) w base 79 ty 125 i0 zeroCmd 7 56 Tryz.underlying79 hi hz0 hz1 hz2 rfl (by decide) v _ _ hown ad xs.length xc (flat 7 xs) (flat_length 7 xs) hsrc (flat_one xs 7) (by unfold maxLen; omega) (by omega) hbase
    refine ⟨v', w', hr, ?_, h3, h5⟩
    unfold RowC
    rw [List.length_append, flat_append]
    exact h2
theorem wp_rowsC {ops : Array Oper} {rest : List Oper} {o : Oper} {a : Act} {Q : Exit → Act → World → Prop} (w : World) (hgd : o.guard = none) (s x : Operand)
    (ho : o.op = .call { callee := .builtin .append, args := #[s, x], argTypes := #[79, 79] }) (base : Nat) (v : Value) (es : List (List Int)) (hs : a.eval s = v) (hown : RowC base w v es)
    (xa : Option Addr) (xc : Nat) (xs : List (List Int)) (hxe : a.eval x = .slice xa xs.length xc) (hx : Recs w xa 7 xs) (hnil : xa = none → xc = 0) (hlen : es.length + xs.length ≤ 100000) (hbase : base ≤ w.heap.size)
    (h : ∀ v' w', RowC base w' v' (es ++ xs) → w.grownBy w' v.ownBlock → (v'.ownBlock = v.ownBlock ∨ v'.ownBlock = some w.heap.size) → wpList Tryz.prog ops Q rest (a.put o.dst v') w') : wpList Tryz.prog ops Q (o :: rest) a w := by
  refine wpList_plain hgd fun K hK => ?_
  obtain ⟨v', w', hr, h2, h3, h4⟩ := rowRunC w base o.type v es hown xa xc xs hx hnil hlen hbase
  unfold Oper.wp execOp
  simp only [ho, resolve, invoke, builtin, Sem.run_bind, Sem.run_pure, Result.andThen_ok, List.map_toArray, List.map_cons, List.map_nil, hs, hxe, hr]
  exact hK _ _ (h v' w' h2 h3 h4)
theorem recs_oneC (w : World) (u : List Int) (t : TypeId) : Recs (w.alloc (.cells (cmdC u) t)) (some ⟨w.heap.size, 0, none⟩) 7 [u] := by
  refine Or.inr ⟨w.heap.size, 0, rfl, fun i hi j hj => ?_⟩
  have h0 : i = 0 := by simpa using hi
  subst h0
  rw [cell_of_row _ _ (0 + 0 * 7 + j) _ _ _ (heap_alloc_new w _)]
  have e : 0 + 0 * 7 + j = j := by omega
  rw [e]
  show (cmdC u)[j]? = some (.int .i64 (fld u j))
  match j, hj with
  | 0, _ | 1, _ | 2, _ | 3, _ | 4, _ | 5, _ | 6, _ => rfl
end Go.Proofs.YtgiieepfhohmhabGreat
namespace Go.Proofs.YtgiieepfhohmhabGreat
open Go.RowKit Go.Maps
end Go.Proofs.YtgiieepfhohmhabGreat
namespace Go.Proofs.YtgiieepfhohmhabGreat
open Go.RowKit Go.Maps
def tenZ (s : List Int) : List Int := [fld s 0, fld s 1, fld s 2, fld s 3, fld s 4, fld s 5, fld s 6, fld s 7, fld s 8, fld s 9]
theorem nums_four (w : World) (a b c d : Int) (t : TypeId) : Nums (w.alloc (.cells #[.int .i64 a, .int .i64 b, .int .i64 c, .int .i64 d] t)) (some ⟨w.heap.size, 0, none⟩) [a, b, c, d] := by
  refine Or.inr ⟨w.heap.size, 0, rfl, fun i hi => ?_⟩
  rw [cell_of_row _ _ (0 + i) _ _ _ (heap_alloc_new w _), Nat.zero_add]
  have hi' : i < 4 := hi
  match i, hi' with
  | 0, _ | 1, _ | 2, _ | 3, _ => rfl
theorem nums_ten (w : World) (s : List Int) (t : TypeId) : Nums (w.alloc (.cells (entC s) t)) (some ⟨w.heap.size, 0, none⟩) (tenZ s) := by
  refine Or.inr ⟨w.heap.size, 0, rfl, fun i hi => ?_⟩
  rw [cell_of_row _ _ (0 + i) _ _ _ (heap_alloc_new w _), Nat.zero_add]
  have hi' : i < 10 := hi
  match i, hi' with
  | 0, _ | 1, _ | 2, _ | 3, _ | 4, _ | 5, _ | 6, _ | 7, _ | 8, _ | 9, _ => rfl
end Go.Proofs.YtgiieepfhohmhabGreat
