/- ElderSays: rows of commands that grow; a play, whole. -/
import Derived.ChangeKeysEq
import Derived.Laws.OwnMore
import Derived.Test.YtcbalhicaipmlaaGreatSNwK
import Derived.Test.YtcbalhicaipmlaaGreatSRefQ
namespace Go.Proofs.YtcbalhicaipmlaaGreat
open Go.RowKit Go.Maps
def RowC (base : Nat) (w : World) (v : Value) (us : List (List Int)) : Prop := w.ownsRow base 85 7 v us.length (flat 7 us)
theorem RowC.open {base : Nat} {w : World} {v : Value} {us : List (List Int)} (h : RowC base w v us) : ∃ ea c, v = .slice ea us.length c ∧ us.length ≤ c ∧ Recs w ea 7 us ∧ (0 < us.length → ∃ g, ea = some ⟨g, 0, none⟩ ∧ base ≤ g ∧ g < w.heap.size) := by
  have h' := h
  rcases h.2 with ⟨rfl, h0⟩ | ⟨g, cap, cur, rfl, hb, hg, hn, hm, hs, ht⟩
  · refine ⟨none, 0, by rw [h0], by omega, Or.inl (List.eq_nil_of_length_eq_zero h0), fun h => by omega⟩
  · refine ⟨some ⟨g, 0, none⟩, cap, rfl, hn, Or.inr ⟨g, 0, rfl, fun i hi j hj => ?_⟩, fun _ => ⟨g, rfl, hb, (Array.getElem?_eq_some_iff.1 hg).1⟩⟩
    have hlt : i * 7 + j < us.length * 7 := by omega
    rw [Nat.zero_add, World.ownsRow.cellAt h' _ hlt, flat_get hj, if_pos hi]
abbrev zeroCmd : Value := .agg #[.int .i64 0, .int .i64 0, .int .i64 0, .int .i64 0, .int .i64 0, .int .i64 0, .int .i64 0]
theorem info_cmd : (Tryz.prog.info? 85).map (fun i => (i.zero, i.size, i.bytes)) = some (some zeroCmd, 7, 56) := by kernel_rfl
theorem flatC_src {w : World} {b o : Nat} {xs : List (List Int)} (h : ∀ i, i < xs.length → ∀ j, j < 7 → w.cell? ⟨b, o + i * 7 + j, none⟩ = some (.int .i64 (fld (rec xs i) j))) : ∀ j u, (flat 7 xs)[j]? = some u → w.cell? ((⟨b, o, none⟩ : Addr).add j) = some u := by
  intro m u hm
  have e : m = (m / 7) * 7 + m % 7 := by omega
  have hr : m % 7 < 7 := Nat.mod_lt _ (by omega)
  generalize m / 7 = q at e
  generalize m % 7 = r at e hr
  subst e
  rw [flat_get hr] at hm
  split at hm
  next hq =>
    rw [add_off, ← Nat.add_assoc, h q hq r hr]
    exact hm
  · cases hm
theorem rowRunC (w : World) (base : Nat) (ty : TypeId) (v : Value) (es : List (List Int)) (hown : RowC base w v es) (xa : Option Addr) (xc : Nat) (xs : List (List Int)) (hx : Recs w xa 7 xs) (hnil : xa = none → xc = 0)
    (hlen : es.length + xs.length ≤ 100000) (hbase : base ≤ w.heap.size) :
    ∃ v' w', (Builtin.append_ #[76, 76] ty #[v, .slice xa xs.length xc]).run Tryz.prog w = .ok v' w' ∧ RowC base w' v' (es ++ xs) ∧ w.grownBy w' v.ownBlock ∧ (v'.ownBlock = v.ownBlock ∨ v'.ownBlock = some w.heap.size) := by
  obtain ⟨i0, hi, hz0, hz1, hz2⟩ := info_parts info_cmd
  rcases xa with _ | ad
  · have hx0 : xs = [] := by
      rcases hx with h | ⟨b, o, h, _⟩
      · exact h
      · cases h
    subst hx0
    rw [hnil rfl]
    have hrun := run_append_owned_none (P := Tryz.prog) (w := w) base 76 ty 85 i0 7 Tryz.underlying76 hi v _ _ hown
    refine ⟨v, w, hrun, by rw [List.append_nil]; exact hown, ⟨rfl, rfl, rfl, Nat.le_refl _, fun _ _ _ => rfl⟩, Or.inl rfl⟩
  · have hsrc : ∀ j u, (flat 7 xs)[j]? = some u → w.cell? (ad.add j) = some u := by
      rcases hx with h | ⟨b', o', h, hc⟩
      · subst h
        intro j u hj
        simp [flat] at hj
      · cases h
        exact flatC_src hc
    obtain ⟨v', w', hr, h2, h3, h4, h5⟩ := run_append_own_at (P := Tryz.prog) w base 76 ty 85 i0 zeroCmd 7 56 Tryz.underlying76 hi hz0 hz1 hz2 rfl (by decide) v _ _ hown ad xs.length xc (flat 7 xs) (flat_length 7 xs) hsrc (flat_one xs 7) (by unfold maxLen; omega) (by omega) hbase
    refine ⟨v', w', hr, ?_, h3, h5⟩
    unfold RowC
    rw [List.length_append, flat_append]
    exact h2
theorem wp_rowsC {ops : Array Oper} {rest : List Oper} {o : Oper} {a : Act} {Q : Exit → Act → World → Prop} (w : World) (hgd : o.guard = none) (s x : Operand)
    (ho : o.op = .call { callee := .builtin .append, args := #[s, x], argTypes := #[76, 76] }) (base : Nat) (v : Value) (es : List (List Int)) (hs : a.eval s = v) (hown : RowC base w v es)
    (xa : Option Addr) (xc : Nat) (xs : List (List Int)) (hxe : a.eval x = .slice xa xs.length xc) (hx : Recs w xa 7 xs) (hnil : xa = none → xc = 0) (hlen : es.length + xs.length ≤ 100000) (hbase : base ≤ w.heap.size)
    (h : ∀ v' w', RowC base w' v' (es ++ xs) → w.grownBy w' v.ownBlock → (v'.ownBlock = v.ownBlock ∨ v'.ownBlock = some w.heap.size) → wpList Tryz.prog ops Q rest (a.put o.dst v') w') : wpList Tryz.prog ops Q (o :: rest) a w := by
  refine wpList_plain hgd fun K hK => ?_
  obtain ⟨v', w', hr, h2, h3, h4⟩ := rowRunC w base o.type v es hown xa xc xs hx hnil hlen hbase
  unfold Oper.wp execOp
  simp only [ho, resolve, invoke, builtin, Sem.run_bind, Sem.run_pure, Result.andThen_ok, List.map_toArray, List.map_cons, List.map_nil, hs, hxe, hr]
  exact hK _ _ (h v' w' h2 h3 h4)
theorem recs_oneC (w : World) (u : List Int) (t : TypeId) : Recs (w.alloc (.cells (cmdC u) t)) (some ⟨w.heap.size, 0, none⟩) 7 [u] := by
  refine Or.inr ⟨w.heap.size, 0, rfl, fun i hi j hj => ?_⟩
  have h0 : i = 0 := by simpa using hi
  subst h0
  rw [cell_of_row _ _ (0 + 0 * 7 + j) _ _ _ (heap_alloc_new w _)]
  have e : 0 + 0 * 7 + j = j := by omega
  rw [e]
  show (cmdC u)[j]? = some (.int .i64 (fld u j))
  match j, hj with
  | 0, _ | 1, _ | 2, _ | 3, _ | 4, _ | 5, _ | 6, _ => rfl
theorem same_true (c : Nat) (hc : c ≤ 3) (w : World) : Calls Tryz.prog 10 #[errV c, .int .i64 c] w fun e w' => e = .returned (.bool true) ∧ w' = w := by
  have h := same_calls c c (by omega) (by omega) w
  rw [decide_eq_true rfl] at h
  exact h
end Go.Proofs.YtcbalhicaipmlaaGreat
namespace Go.Proofs.YtcbalhicaipmlaaGreat
open Go.RowKit Go.Maps
theorem gold_eq (a b : Int) (w : World) : (Op.equalIn 10000 22 (.agg #[.int .i64 a, .int .i64 b]) (.agg #[.int .i64 a, .int .i64 b])).run Tryz.prog w = .ok true w := by
  obtain ⟨i0, hi, _, _, _⟩ := info_parts info_int
  rw [Go.run_equalIn_array w 9999 _ _ Tryz.underlying22 hi]
  have e : List.range 2 = [0, 1] := rfl
  have c1 : Tryz.prog.cellsOf 3 = 1 := by kernel_rfl
  rw [e, c1]
  simp [Op.eqItems, go_sem]
theorem ent_eq (u : List Int) (w : World) : (Op.equalIn 10000 119 (entV u) (entV u)).run Tryz.prog w = .ok true w := by
  rw [run_equalIn_struct w 9999 119 _ _ (by kernel_rfl) (by kernel_rfl)]
  simp [go_sem]
set_option maxRecDepth 100000 in
set_option maxHeartbeats 1000000 in
theorem sameNumbers_calls (aa ba : Option Addr) (ac bc : Nat) (zs : List Int) (w : World) (hn : zs.length ≤ 100000) (ha : Nums w aa zs) (hb : Nums w ba zs) :
    Calls Tryz.prog 61 #[.slice aa zs.length ac, .slice ba zs.length bc] w fun e w' => e = .returned (.bool true) ∧ Below w.heap.size w w' := by
  have HA := hid ha
  have HB := hid hb
  clear ha hb
  have hl : ((zs.length : Int) != (zs.length : Int)) = false := by simp
  go_enter Tryz.func61, Tryz.ntmps61
  go_wp2_with fail
  go_loopw [5] (fun i wr => ∃ k : Nat, k ≤ zs.length ∧ i = .int .i64 k ∧ Hid (Below w.heap.size w wr)) (fun i _ => zs.length - (intOf i).toNat)
  case atStart => exact ⟨0, Nat.zero_le _, rfl, Below.refl _ _⟩
  case round =>
    obtain ⟨k, hk, rfl, HBk⟩ := hrel
    by_cases hlt : k < zs.length
    · have hltz : (k : Int) < (zs.length : Int) := by omega
      obtain ⟨b, o, rfl, hc⟩ := (HA.out.below HBk.out).at hlt
      obtain ⟨b2, o2, rfl, hc2⟩ := (HB.out.below HBk.out).at hlt
      have hne : (fld zs k != fld zs k) = false := by simp
      go_wp2_with fail
      go_quiet (fail)
      go_wp2
      go_roundw
      case rel => exact ⟨k + 1, by omega, by go_num, below_drewN HBk.out _⟩
      case measure => simp [intOf]; omega
    · have hltz : ¬ (k : Int) < (zs.length : Int) := by omega
      go_wp2
      go_ret
      exact ⟨rfl, HBk.out⟩
set_option maxRecDepth 100000 in
set_option maxHeartbeats 4000000 in
theorem sameElder_calls (t g0 g1 nx : Int) (free : List Int) (es : List (List Int)) (fa ea fb eb : Option Addr) (fc ec fd ed : Nat) (w : World) (hnf : free.length ≤ 100000) (hne : es.length ≤ 100000) (h1 : Nums w fa free) (h2 : Nums w fb free) (h3 : Recs w ea 10 es) (h4 : Recs w eb 10 es) :
    Calls Tryz.prog 26 #[elderV t g0 g1 nx (.slice fa free.length fc) (.slice ea es.length ec), elderV t g0 g1 nx (.slice fb free.length fd) (.slice eb es.length ed)] w fun e w' => e = .returned (.bool true) ∧ Below w.heap.size w w' := by
  obtain ⟨W, hW⟩ : ∃ W, (w.alloc (.cells #[.int .i64 t, .int .i64 g0, .int .i64 g1, .int .i64 nx, .slice fa free.length fc, .slice ea es.length ec] 26)).alloc (.cells #[.int .i64 t, .int .i64 g0, .int .i64 g1, .int .i64 nx, .slice fb free.length fd, .slice eb es.length ed] 26) = W := ⟨_, rfl⟩
  have hbW : Below w.heap.size w W := by rw [← hW]; exact ((Below.refl _ w).alloc (Nat.le_refl _) _).alloc (by simp [go_sem]) _
  have hsW : W.heap.size = w.heap.size + 2 := by rw [← hW]; simp [go_sem]
  have hh0 : W.heap[w.heap.size]? = some (.cells #[.int .i64 t, .int .i64 g0, .int .i64 g1, .int .i64 nx, .slice fa free.length fc, .slice ea es.length ec] 26) := by
    rw [← hW, heap_alloc_old _ _ (by simp [go_sem])]
    exact heap_alloc_new w _
  have hh1 : W.heap[w.heap.size + 1]? = some (.cells #[.int .i64 t, .int .i64 g0, .int .i64 g1, .int .i64 nx, .slice fb free.length fd, .slice eb es.length ed] 26) := by
    have e : w.heap.size + 1 = (w.alloc (.cells #[.int .i64 t, .int .i64 g0, .int .i64 g1, .int .i64 nx, .slice fa free.length fc, .slice ea es.length ec] 26)).heap.size := by simp [go_sem]
    rw [← hW, e]
    exact heap_alloc_new _ _
  obtain ⟨x0, x1, x2, x3, x4, x5⟩ := elder_cells hh0
  obtain ⟨y0, y1, y2, y3, y4, y5⟩ := elder_cells hh1
  have HN := hid (sameNumbers_calls fa fb fc fd free W hnf (h1.below hbW) (h2.below hbW))
  have HA := hid (h3.below hbW)
  have HB := hid (h4.below hbW)
  have HBW := hid hbW
  have HSW := hid hsW
  have H0 := hid hh0
  have H1 := hid hh1
  have hgs := gold_eq g0 g1
  have ht : (t != t) = false := by simp
  have hnx : (nx != nx) = false := by simp
  have hll : ((es.length : Int) != (es.length : Int)) = false := by simp
  clear h1 h2 h3 h4 hbW hsW hh0 hh1
  go_enter Tryz.func26, Tryz.ntmps26
  go_wp2_with fail
  refine HN.out.mono ?_
  rintro e w2 ⟨rfl, hb2⟩
  have hq0 := (hb2.block w.heap.size (by rw [HSW.out]; omega)).trans H0.out
  have hq1 := (hb2.block (w.heap.size + 1) (by rw [HSW.out]; omega)).trans H1.out
  obtain ⟨_, _, _, _, _, z5⟩ := elder_cells hq0
  obtain ⟨_, _, _, _, _, v5⟩ := elder_cells hq1
  have HB2 : Hid (Below W.heap.size W w2) := hb2
  clear x0 x1 x2 x3 x4 x5 y0 y1 y2 y3 y4 y5 HN hb2 hq0 hq1 hW hgs
  go_wp2_with fail
  clear z5 v5
  go_loopw [5] (fun i wr => ∃ k : Nat, k ≤ es.length ∧ i = .int .i64 k ∧ Hid (Below W.heap.size W wr)) (fun i _ => es.length - (intOf i).toNat)
  case atStart => exact ⟨0, Nat.zero_le _, rfl, HB2⟩
  case round =>
    clear HB2
    obtain ⟨k, hk, rfl, HBk⟩ := hrel
    have hq0 := (HBk.out.block w.heap.size (by rw [HSW.out]; omega)).trans H0.out
    have hq1 := (HBk.out.block (w.heap.size + 1) (by rw [HSW.out]; omega)).trans H1.out
    obtain ⟨_, _, _, _, _, z5⟩ := elder_cells hq0
    obtain ⟨_, _, _, _, _, v5⟩ := elder_cells hq1
    clear hq0 hq1
    by_cases hlt : k < es.length
    · have hltz : (k : Int) < (es.length : Int) := by omega
      obtain ⟨b, o, rfl, hb, l0, l1, l2, l3, l4, l5, l6, l7, l8, l9⟩ := (HA.out.below HBk.out).ten hlt
      obtain ⟨b', o', rfl, hb', m0, m1, m2, m3, m4, m5, m6, m7, m8, m9⟩ := (HB.out.below HBk.out).ten hlt
      generalize rec es k = u at l0 l1 l2 l3 l4 l5 l6 l7 l8 l9 m0 m1 m2 m3 m4 m5 m6 m7 m8 m9
      have heq := ent_eq u
      go_wp2_with fail
      go_quiet (fail)
      go_wp2
      go_roundw
      case rel => exact ⟨k + 1, by omega, by go_num, below_drewN HBk.out _⟩
      case measure => simp [intOf]; omega
    · have hltz : ¬ (k : Int) < (es.length : Int) := by omega
      have HF : Hid (Below w.heap.size w wr) := HBW.out.trans (HBk.out.mono (by rw [HSW.out]; omega))
      go_wp2
      go_ret
      exact ⟨rfl, HF.out⟩
end Go.Proofs.YtcbalhicaipmlaaGreat
namespace Go.Proofs.YtcbalhicaipmlaaGreat
open Go.RowKit Go.Maps
def tenZ (s : List Int) : List Int := [fld s 0, fld s 1, fld s 2, fld s 3, fld s 4, fld s 5, fld s 6, fld s 7, fld s 8, fld s 9]
theorem nums_four (w : World) (a b c d : Int) (t : TypeId) : Nums (w.alloc (.cells #[.int .i64 a, .int .i64 b, .int .i64 c, .int .i64 d] t)) (some ⟨w.heap.size, 0, none⟩) [a, b, c, d] := by
  refine Or.inr ⟨w.heap.size, 0, rfl, fun i hi => ?_⟩
  rw [cell_of_row _ _ (0 + i) _ _ _ (heap_alloc_new w _), Nat.zero_add]
  have hi' : i < 4 := hi
  match i, hi' with
  | 0, _ | 1, _ | 2, _ | 3, _ => rfl
theorem nums_ten (w : World) (s : List Int) (t : TypeId) : Nums (w.alloc (.cells (entC s) t)) (some ⟨w.heap.size, 0, none⟩) (tenZ s) := by
  refine Or.inr ⟨w.heap.size, 0, rfl, fun i hi => ?_⟩
  rw [cell_of_row _ _ (0 + i) _ _ _ (heap_alloc_new w _), Nat.zero_add]
  have hi' : i < 10 := hi
  match i, hi' with
  | 0, _ | 1, _ | 2, _ | 3, _ | 4, _ | 5, _ | 6, _ | 7, _ | 8, _ | 9, _ => rfl
end Go.Proofs.YtcbalhicaipmlaaGreat
