/- NewerSays: rows of orders that grow. -/
import Derived.Test.YtmnddahkbmlibaaNsRefQ
import Derived.Test.YtmnddahkbmlibaaNsWhN
import Derived.Test.YtmnddahkbmlibaaNsNwI
namespace Go.Proofs.Ytmnddahkbmlibaa
open Go.RowKit Go.Maps
def RowO (base : Nat) (w : World) (v : Value) (us : List (List Int)) : Prop := w.ownsRow base 98 6 v us.length (flat 6 us)
theorem RowO.open {base : Nat} {w : World} {v : Value} {us : List (List Int)} (h : RowO base w v us) : ∃ ea c, v = .slice ea us.length c ∧ us.length ≤ c ∧ Recs w ea 6 us ∧ (0 < us.length → ∃ g, ea = some ⟨g, 0, none⟩ ∧ base ≤ g ∧ g < w.heap.size) := by
  have h' := h
  rcases h.2 with ⟨rfl, h0⟩ | ⟨g, cap, cur, rfl, hb, hg, hn, hm, hs, ht⟩
  · refine ⟨none, 0, by rw [h0], by omega, Or.inl (List.eq_nil_of_length_eq_zero h0), fun h => by omega⟩
  · refine ⟨some ⟨g, 0, none⟩, cap, rfl, hn, Or.inr ⟨g, 0, rfl, fun i hi j hj => ?_⟩, fun _ => ⟨g, rfl, hb, (Array.getElem?_eq_some_iff.1 hg).1⟩⟩
    have hlt : i * 6 + j < us.length * 6 := by omega
    rw [Nat.zero_add, World.ownsRow.cellAt h' _ hlt, flat_get hj, if_pos hi]
abbrev zeroOrd : Value := .agg #[.int .i64 0, .int .i64 0, .int .i64 0, .int .i64 0, .int .i64 0, .int .i64 0]
theorem info_ord : (Try.prog.info? 98).map (fun i => (i.zero, i.size, i.bytes)) = some (some zeroOrd, 6, 48) := by kernel_rfl
theorem flatO_src {w : World} {b o : Nat} {xs : List (List Int)} (h : ∀ i, i < xs.length → ∀ j, j < 6 → w.cell? ⟨b, o + i * 6 + j, none⟩ = some (.int .i64 (fld (rec xs i) j))) : ∀ j u, (flat 6 xs)[j]? = some u → w.cell? ((⟨b, o, none⟩ : Addr).add j) = some u := by
  intro m u hm
  have e : m = (m / 6) * 6 + m % 6 := by omega
  have hr : m % 6 < 6 := Nat.mod_lt _ (by omega)
  generalize m / 6 = q at e
  generalize m % 6 = r at e hr
  subst e
  rw [flat_get hr] at hm
  split at hm
  next hq =>
    rw [add_off, ← Nat.add_assoc, h q hq r hr]
    exact hm
  · cases hm
theorem rowRunO (w : World) (base : Nat) (ty : TypeId) (v : Value) (es : List (List Int)) (hown : RowO base w v es) (xa : Option Addr) (xc : Nat) (xs : List (List Int)) (hx : Recs w xa 6 xs) (hnil : xa = none → xc = 0)
    (hlen : es.length + xs.length ≤ 100000) (hbase : base ≤ w.heap.size) :
    ∃ v' w', (Builtin.append_ #[91, 91] ty #[v, .slice xa xs.length xc]).run Try.prog w = .ok v' w' ∧ RowO base w' v' (es ++ xs) ∧ w.grownBy w' v.ownBlock ∧ (v'.ownBlock = v.ownBlock ∨ v'.ownBlock = some w.heap.size) := by
  obtain ⟨i0, hi, hz0, hz1, hz2⟩ := info_parts info_ord
  rcases xa with _ | ad
  · have hx0 : xs = [] := by
      rcases hx with h | ⟨b, o, h, _⟩
      · exact h
      · cases h
    subst hx0
    rw [hnil rfl]
    have hrun := run_append_owned_none (P := Try.prog) (w := w) base 91 ty 98 i0 6 Try.underlying91 hi v _ _ hown
    refine ⟨v, w, hrun, by rw [List.append_nil]; exact hown, ⟨rfl, rfl, rfl, Nat.le_refl _, fun _ _ _ => rfl⟩, Or.inl rfl⟩
  · have hsrc : ∀ j u, (flat 6 xs)[j]? = some u → w.cell? (ad.add j) = some u := by
      rcases hx with h | ⟨b', o', h, hc⟩
      · subst h
        intro j u hj
        simp [flat] at hj
      · cases h
        exact flatO_src hc
    obtain ⟨v', w', hr, h2, h3, h4, h5⟩ := run_append_own_at (P := Try.prog) w base 91 ty 98 i0 zeroOrd 6 48 Try.underlying91 hi hz0 hz1 hz2 rfl (by decide) v _ _ hown ad xs.length xc (flat 6 xs) (flat_length 6 xs) hsrc (flat_one xs 6) (by unfold maxLen; omega) (by omega) hbase
    refine ⟨v', w', hr, ?_, h3, h5⟩
    unfold RowO
    rw [List.length_append, flat_append]
    exact h2
theorem wp_rowsO {ops : Array Oper} {rest : List Oper} {o : Oper} {a : Act} {Q : Exit → Act → World → Prop} (w : World) (hgd : o.guard = none) (s x : Operand)
    (ho : o.op = .call { callee := .builtin .append, args := #[s, x], argTypes := #[91, 91] }) (base : Nat) (v : Value) (es : List (List Int)) (hs : a.eval s = v) (hown : RowO base w v es)
    (xa : Option Addr) (xc : Nat) (xs : List (List Int)) (hxe : a.eval x = .slice xa xs.length xc) (hx : Recs w xa 6 xs) (hnil : xa = none → xc = 0) (hlen : es.length + xs.length ≤ 100000) (hbase : base ≤ w.heap.size)
    (h : ∀ v' w', RowO base w' v' (es ++ xs) → w.grownBy w' v.ownBlock → (v'.ownBlock = v.ownBlock ∨ v'.ownBlock = some w.heap.size) → wpList Try.prog ops Q rest (a.put o.dst v') w') : wpList Try.prog ops Q (o :: rest) a w := by
  refine wpList_plain hgd fun K hK => ?_
  obtain ⟨v', w', hr, h2, h3, h4⟩ := rowRunO w base o.type v es hown xa xc xs hx hnil hlen hbase
  unfold Oper.wp execOp
  simp only [ho, resolve, invoke, builtin, Sem.run_bind, Sem.run_pure, Result.andThen_ok, List.map_toArray, List.map_cons, List.map_nil, hs, hxe, hr]
  exact hK _ _ (h v' w' h2 h3 h4)
theorem recs_oneO (w : World) (u : List Int) (t : TypeId) : Recs (w.alloc (.cells (ordC u) t)) (some ⟨w.heap.size, 0, none⟩) 6 [u] := by
  refine Or.inr ⟨w.heap.size, 0, rfl, fun i hi j hj => ?_⟩
  have h0 : i = 0 := by simpa using hi
  subst h0
  rw [cell_of_row _ _ (0 + 0 * 6 + j) _ _ _ (heap_alloc_new w _)]
  have e : 0 + 0 * 6 + j = j := by omega
  rw [e]
  show (ordC u)[j]? = some (.int .i64 (fld u j))
  match j, hj with
  | 0, _ | 1, _ | 2, _ | 3, _ | 4, _ | 5, _ => rfl
theorem rowO_front {base : Nat} {w : World} {va : Option Addr} {n vc : Nat} {es : List (List Int)} {u : List Int} (h : RowO base w (.slice va n vc) (es ++ [u])) : Recs w va 6 es ∧ es.length ≤ vc := by
  obtain ⟨ea, c, e, hc, hr, hg⟩ := h.open
  cases e
  refine ⟨?_, by simp at hc; omega⟩
  rcases hr with x | ⟨b, o, x, hcell⟩
  · simp at x
  · refine Or.inr ⟨b, o, x, fun i hi j hj => ?_⟩
    have h2 := hcell i (by simp; omega) j hj
    have e2 : rec (es ++ [u]) i = rec es i := by
      rw [rec_at (by simp; omega), rec_at hi, List.getElem_append_left hi]
    rw [e2] at h2
    exact h2
end Go.Proofs.Ytmnddahkbmlibaa
namespace Go.Proofs.Ytmnddahkbmlibaa
open Go.RowKit Go.Maps
set_option maxHeartbeats 2000000 in
theorem there_calls (x y : Int) (bx b2 : Nat) (w : World) (hx : bx < w.heap.size) (hy : b2 < w.heap.size) (cx : w.cell? ⟨bx, 0, none⟩ = some (.int .i64 x)) (cy : w.cell? ⟨b2, 0, none⟩ = some (.int .i64 y)) (W : World) (u : List Int) (hb : Below w.heap.size w W) :
    Calls Try.prog 198 (#[unitV u] ++ #[.pointer (some ⟨bx, 0, none⟩), .pointer (some ⟨b2, 0, none⟩)]) W fun e w' => e = .returned (.bool (isAt x y u)) ∧ Below w.heap.size w w' := by
  have cxW : W.cell? ⟨bx, 0, none⟩ = some (.int .i64 x) := (hb.cell (p := ⟨bx, 0, none⟩) hx).trans cx
  have cyW : W.cell? ⟨b2, 0, none⟩ = some (.int .i64 y) := (hb.cell (p := ⟨b2, 0, none⟩) hy).trans cy
  have hxW : bx < W.heap.size := Nat.lt_of_lt_of_le hx hb.size
  have hyW : b2 < W.heap.size := Nat.lt_of_lt_of_le hy hb.size
  have hne1 : bx ≠ W.heap.size := by omega
  have hne2 : b2 ≠ W.heap.size := by omega
  have HB := hid hb
  clear hb cx cy hx hy
  show Calls Try.prog 198 #[.agg (unitC u), .pointer (some ⟨bx, 0, none⟩), .pointer (some ⟨b2, 0, none⟩)] W fun e w' => e = .returned (.bool (fld u 3 == x && fld u 4 == y)) ∧ Below w.heap.size w w'
  cases h3 : fld u 3 == x
  · go_enter Try.func198, Try.ntmps198
    go_wp2
    go_ret
    exact ⟨rfl, HB.out.alloc HB.out.size _⟩
  · cases h4 : fld u 4 == y
    · go_enter Try.func198, Try.ntmps198
      go_wp2
      go_ret
      exact ⟨rfl, HB.out.alloc HB.out.size _⟩
    · go_enter Try.func198, Try.ntmps198
      go_wp2
      go_ret
      exact ⟨rfl, HB.out.alloc HB.out.size _⟩
set_option maxHeartbeats 2000000 in
theorem containsU_calls (g : Nat) (lb : Array Value) (eg : ∀ args w, (callFunc g args).run Try.prog w = .ok (.enter g args) w) (p : List Int → Bool) (es : List (List Int)) (ea : Option Addr) (c : Nat) (w : World)
    (hn : es.length ≤ 1000) (hrow : Recs w ea 11 es)
    (hp : ∀ (W : World) (u : List Int), Below w.heap.size w W → Calls Try.prog g (#[unitV u] ++ lb) W fun e w' => e = .returned (.bool (p u)) ∧ Below w.heap.size w w') :
    Calls Try.prog 199 #[.slice ea es.length c, .func (.func g) #[] lb] w fun e w' => e = .returned (.bool (decide (0 ≤ idxZ p es))) ∧ Below w.heap.size w w' := by
  have HI := hid (indexFuncU_calls g lb eg p es ea c w hn hrow hp)
  clear hrow hp
  go_enter Try.func199, Try.ntmps199
  go_wp2_with fail
  refine HI.out.mono ?_
  rintro e w2 ⟨rfl, hb2⟩
  have HB := hid hb2
  clear hb2 HI
  by_cases hz : 0 ≤ idxZ p es
  · have HZ := hid hz
    go_wp2
    go_ret
    exact ⟨retB (by simp [HZ.out]), HB.out⟩
  · have HZ := hid hz
    go_wp2
    go_ret
    exact ⟨retB (by simp), HB.out⟩
set_option maxRecDepth 100000 in
set_option maxHeartbeats 4000000 in
theorem hasRoomN_calls (base p B : Nat) (uv : Value) (s : St) (f : Int → Option Value) (old : Int) (u : List Int) (x y : Int) (w : World) (hn : s.es.length ≤ 1000) (hu : OnU u) (h : GmN base w p uv B s f old) :
    Calls Try.prog 190 #[.pointer (some ⟨p, 0, none⟩), unitV u, .int .i64 x, .int .i64 y] w fun e w' => e = .returned (.bool (roomE s.es u x y)) ∧ Below w.heap.size w w' := by
  obtain ⟨ea, c, rfl, hcap, hrecs, hg0⟩ := h.er.open
  have hlt := h.lt
  obtain ⟨W, hW⟩ : ∃ W, ((w.alloc (.cells (unitC u) 110)).alloc (.cells #[.int .i64 x] 3)).alloc (.cells #[.int .i64 y] 3) = W := ⟨_, rfl⟩
  have hs1 : (w.alloc (.cells (unitC u) 110)).heap.size = w.heap.size + 1 := by simp [go_sem]
  have hs2 : ((w.alloc (.cells (unitC u) 110)).alloc (.cells #[.int .i64 x] 3)).heap.size = w.heap.size + 2 := by simp [go_sem]
  have hsW : W.heap.size = w.heap.size + 3 := by rw [← hW]; simp [go_sem]
  have hbW : Below w.heap.size w W := by rw [← hW]; exact (((Below.refl _ w).alloc (Nat.le_refl _) _).alloc (by omega) _).alloc (by omega) _
  have hh0 : W.heap[w.heap.size]? = some (.cells (unitC u) 110) := by
    rw [← hW, heap_alloc_old _ _ (by omega), heap_alloc_old _ _ (by omega)]
    exact heap_alloc_new w _
  have hh1 : W.heap[w.heap.size + 1]? = some (.cells #[.int .i64 x] 3) := by
    rw [← hW, heap_alloc_old _ _ (by omega), ← hs1]
    exact heap_alloc_new _ _
  have hh2 : W.heap[w.heap.size + 2]? = some (.cells #[.int .i64 y] 3) := by
    rw [← hW, ← hs2]
    exact heap_alloc_new _ _
  have cx : W.cell? ⟨w.heap.size + 1, 0, none⟩ = some (.int .i64 x) := cell_of_row W _ 0 _ _ _ hh1
  have cy : W.cell? ⟨w.heap.size + 2, 0, none⟩ = some (.int .i64 y) := cell_of_row W _ 0 _ _ _ hh2
  have x3 : W.cell? ⟨w.heap.size, 3, none⟩ = some (.int .i64 (fld u 3)) := cell_of_row W _ 3 _ _ _ hh0
  have x4 : W.cell? ⟨w.heap.size, 4, none⟩ = some (.int .i64 (fld u 4)) := cell_of_row W _ 4 _ _ _ hh0
  have d4 := (h.below hbW).cell 4
  have eg : ∀ args w, (callFunc 198 args).run Try.prog w = .ok (.enter 198 args) w := enters_of Try.func198 (by kernel_rfl) rfl
  have HS := hid (containsU_calls 198 #[.pointer (some ⟨w.heap.size + 1, 0, none⟩), .pointer (some ⟨w.heap.size + 2, 0, none⟩)] eg (isAt x y) s.es ea c W hn (hrecs.below hbW) (fun W' v hb' => there_calls x y (w.heap.size + 1) (w.heap.size + 2) W (by omega) (by omega) cx cy W' v hb'))
  have HB1 := hid hbW
  have HSW := hid hsW
  clear h hrecs hg0 hh0 hh1 hh2 hs1 hs2 eg hbW hsW
  unfold roomE
  go_enter Try.func190, Try.ntmps190
  go_wp2_with fail
  refine (on_calls _ _ _).mono ?_
  rintro e w' ⟨rfl, rfl⟩
  cases h1 : Pl.onB x y
  · go_wp2
    go_ret
    exact ⟨retB (by rw [h1]; rfl), HB1.out⟩
  have hon := Pl.onB_true h1
  go_wp2_with fail
  refine (far_calls _ _ _ _ hu hon _).mono ?_
  rintro e w' ⟨rfl, rfl⟩
  have H1 := hid h1
  clear hon h1
  by_cases hf : Pl.farZ (fld u 3) (fld u 4) x y ≤ 1
  · have HF := hid hf
    go_wp2_with fail
    refine HS.out.mono ?_
    rintro e w2 ⟨rfl, hb2⟩
    have HB2 := hid (HB1.out.trans (hb2.mono (by rw [HSW.out]; omega)))
    clear hb2 HS hf d4 x3 x4 cx cy hW
    by_cases hz : idxZ (isAt x y) s.es < 0
    · have hz' : ¬ 0 ≤ idxZ (isAt x y) s.es := by omega
      have HZ := hid hz
      go_wp2
      go_ret
      exact ⟨retB (by rw [H1.out]; simp [HF.out, HZ.out]), HB2.out⟩
    · have hz' : 0 ≤ idxZ (isAt x y) s.es := by omega
      have HZ := hid hz
      go_wp2
      go_ret
      exact ⟨retB (by rw [H1.out]; simp [HF.out, HZ.out]), HB2.out⟩
  · have HF := hid (decide_eq_false hf)
    go_wp2
    go_ret
    exact ⟨retB (by rw [H1.out, HF.out]; rfl), HB1.out⟩
end Go.Proofs.Ytmnddahkbmlibaa
