/- ElderSays: rows of commands that grow; a play, whole. -/
import Derived.ChangeKeysEq
import Derived.Laws.OwnMore
import Derived.Test.YtcbalhicaipmlaaGreatRElA
import Derived.Test.YtcbalhicaipmlaaGreatRNwK
import Derived.Test.YtcbalhicaipmlaaGreatRRefQ
import Derived.Test.YtcbalhicaipmlaaGreatRSnC
namespace Go.Proofs.YtcbalhicaipmlaaGreat
open Go.RowKit Go.Maps
def RowC (base : Nat) (w : World) (v : Value) (us : List (List Int)) : Prop := w.ownsRow base 85 7 v us.length (flat 7 us)
theorem RowC.open {base : Nat} {w : World} {v : Value} {us : List (List Int)} (h : RowC base w v us) : ∃ ea c, v = .slice ea us.length c ∧ us.length ≤ c ∧ Recs w ea 7 us ∧ (0 < us.length → ∃ g, ea = some ⟨g, 0, none⟩ ∧ base ≤ g ∧ g < w.heap.size) := by
  have h' := h
  rcases h.2 with ⟨rfl, h0⟩ | ⟨g, cap, cur, rfl, hb, hg, hn, hm, hs, ht⟩
  · refine ⟨none, 0, by rw [h0], by omega, Or.inl (List.eq_nil_of_length_eq_zero h0), fun h => by omega⟩
  · refine ⟨some ⟨g, 0, none⟩, cap, rfl, hn, Or.inr ⟨g, 0, rfl, fun i hi j hj => ?_⟩, fun _ => ⟨g, rfl, hb, (Array.getElem?_eq_some_iff.1 hg).1⟩⟩
    have hlt : i * 7 + j < us.length * 7 := by omega
    rw [Nat.zero_add, World.ownsRow.cellAt h' _ hlt, flat_get hj, if_pos hi]
abbrev zeroCmd : Value := .agg #[.int .i64 0, .int .i64 0, .int .i64 0, .int .i64 0, .int .i64 0, .int .i64 0, .int .i64 0]
theorem info_cmd : (Tryz.prog.info? 85).map (fun i => (i.zero, i.size, i.bytes)) = some (some zeroCmd, 7, 56) := by kernel_rfl
theorem flatC_src {w : World} {b o : Nat} {xs : List (List Int)} (h : ∀ i, i < xs.length → ∀ j, j < 7 → w.cell? ⟨b, o + i * 7 + j, none⟩ = some (.int .i64 (fld (rec xs i) j))) : ∀ j u, (flat 7 xs)[j]? = some u → w.cell? ((⟨b, o, none⟩ : Addr).add j) = some u := by
  intro m u hm
  have e : m = (m / 7) * 7 + m % 7 := by omega
  have hr : m % 7 < 7 := Nat.mod_lt _ (by omega)
  generalize m / 7 = q at e
  generalize m % 7 = r at e hr
  subst e
  rw [flat_get hr] at hm
  split at hm
  next hq =>
    rw [add_off, ← Nat.add_assoc, h q hq r hr]
    exact hm
  · cases hm
theorem rowRunC (w : World) (base : Nat) (ty : TypeId) (v : Value) (es : List (List Int)) (hown : RowC base w v es) (xa : Option Addr) (xc : Nat) (xs : List (List Int)) (hx : Recs w xa 7 xs) (hnil : xa = none → xc = 0)
    (hlen : es.length + xs.length ≤ 100000) (hbase : base ≤ w.heap.size) :
    ∃ v' w', (Builtin.append_ #[76, 76] ty #[v, .slice xa xs.length xc]).run Tryz.prog w = .ok v' w' ∧ RowC base w' v' (es ++ xs) ∧ w.grownBy w' v.ownBlock ∧ (v'.ownBlock = v.ownBlock ∨ v'.ownBlock = some w.heap.size) := by
  obtain ⟨i0, hi, hz0, hz1, hz2⟩ := info_parts info_cmd
  rcases xa with _ | ad
  · have hx0 : xs = [] := by
      rcases hx with h | ⟨b, o, h, _⟩
      · exact h
      · cases h
    subst hx0
    rw [hnil rfl]
    have hrun := run_append_owned_none (P := Tryz.prog) (w := w) base 76 ty 85 i0 7 Tryz.underlying76 hi v _ _ hown
    refine ⟨v, w, hrun, by rw [List.append_nil]; exact hown, ⟨rfl, rfl, rfl, Nat.le_refl _, fun _ _ _ => rfl⟩, Or.inl rfl⟩
  · have hsrc : ∀ j u, (flat 7 xs)[j]? = some u → w.cell? (ad.add j) = some u := by
      rcases hx with h | ⟨b', o', h, hc⟩
      · subst h
        intro j u hj
        simp [flat] at hj
      · cases h
        exact flatC_src hc
    obtain ⟨v', w', hr, h2, h3, h4, h5⟩ := run_append_own_at (P := Tryz.prog) w base 76 ty 85 i0 zeroCmd 7 56 Tryz.underlying76 hi hz0 hz1 hz2 rfl (by decide) v _ _ hown ad xs.length xc (flat 7 xs) (flat_length 7 xs) hsrc (flat_one xs 7) (by unfold maxLen; omega) (by omega) hbase
    refine ⟨v', w', hr, ?_, h3, h5⟩
    unfold RowC
    rw [List.length_append, flat_append]
    exact h2
theorem wp_rowsC {ops : Array Oper} {rest : List Oper} {o : Oper} {a : Act} {Q : Exit → Act → World → Prop} (w : World) (hgd : o.guard = none) (s x : Operand)
    (ho : o.op = .call { callee := .builtin .append, args := #[s, x], argTypes := #[76, 76] }) (base : Nat) (v : Value) (es : List (List Int)) (hs : a.eval s = v) (hown : RowC base w v es)
    (xa : Option Addr) (xc : Nat) (xs : List (List Int)) (hxe : a.eval x = .slice xa xs.length xc) (hx : Recs w xa 7 xs) (hnil : xa = none → xc = 0) (hlen : es.length + xs.length ≤ 100000) (hbase : base ≤ w.heap.size)
    (h : ∀ v' w', RowC base w' v' (es ++ xs) → w.grownBy w' v.ownBlock → (v'.ownBlock = v.ownBlock ∨ v'.ownBlock = some w.heap.size) → wpList Tryz.prog ops Q rest (a.put o.dst v') w') : wpList Tryz.prog ops Q (o :: rest) a w := by
  refine wpList_plain hgd fun K hK => ?_
  obtain ⟨v', w', hr, h2, h3, h4⟩ := rowRunC w base o.type v es hown xa xc xs hx hnil hlen hbase
  unfold Oper.wp execOp
  simp only [ho, resolve, invoke, builtin, Sem.run_bind, Sem.run_pure, Result.andThen_ok, List.map_toArray, List.map_cons, List.map_nil, hs, hxe, hr]
  exact hK _ _ (h v' w' h2 h3 h4)
theorem recs_oneC (w : World) (u : List Int) (t : TypeId) : Recs (w.alloc (.cells (cmdC u) t)) (some ⟨w.heap.size, 0, none⟩) 7 [u] := by
  refine Or.inr ⟨w.heap.size, 0, rfl, fun i hi j hj => ?_⟩
  have h0 : i = 0 := by simpa using hi
  subst h0
  rw [cell_of_row _ _ (0 + 0 * 7 + j) _ _ _ (heap_alloc_new w _)]
  have e : 0 + 0 * 7 + j = j := by omega
  rw [e]
  show (cmdC u)[j]? = some (.int .i64 (fld u j))
  match j, hj with
  | 0, _ | 1, _ | 2, _ | 3, _ | 4, _ | 5, _ | 6, _ => rfl
theorem same_true (c : Nat) (hc : c ≤ 3) (w : World) : Calls Tryz.prog 10 #[errV c, .int .i64 c] w fun e w' => e = .returned (.bool true) ∧ w' = w := by
  have h := same_calls c c (by omega) (by omega) w
  rw [decide_eq_true rfl] at h
  exact h
end Go.Proofs.YtcbalhicaipmlaaGreat
namespace Go.Proofs.YtcbalhicaipmlaaGreat
open Go.RowKit Go.Maps
theorem gold_eq (a b : Int) (w : World) : (Op.equalIn 10000 22 (.agg #[.int .i64 a, .int .i64 b]) (.agg #[.int .i64 a, .int .i64 b])).run Tryz.prog w = .ok true w := by
  obtain ⟨i0, hi, _, _, _⟩ := info_parts info_int
  rw [Go.run_equalIn_array w 9999 _ _ Tryz.underlying22 hi]
  have e : List.range 2 = [0, 1] := rfl
  have c1 : Tryz.prog.cellsOf 3 = 1 := by kernel_rfl
  rw [e, c1]
  simp [Op.eqItems, go_sem]
theorem ent_eq (u : List Int) (w : World) : (Op.equalIn 10000 119 (entV u) (entV u)).run Tryz.prog w = .ok true w := by
  rw [run_equalIn_struct w 9999 119 _ _ (by kernel_rfl) (by kernel_rfl)]
  simp [go_sem]
set_option maxRecDepth 100000 in
set_option maxHeartbeats 1000000 in
theorem sameNumbers_calls (aa ba : Option Addr) (ac bc : Nat) (zs : List Int) (w : World) (hn : zs.length ≤ 100000) (ha : Nums w aa zs) (hb : Nums w ba zs) :
    Calls Tryz.prog 61 #[.slice aa zs.length ac, .slice ba zs.length bc] w fun e w' => e = .returned (.bool true) ∧ Below w.heap.size w w' := by
  have HA := hid ha
  have HB := hid hb
  clear ha hb
  have hl : ((zs.length : Int) != (zs.length : Int)) = false := by simp
  go_enter Tryz.func61, Tryz.ntmps61
  go_wp2_with fail
  go_loopw [5] (fun i wr => ∃ k : Nat, k ≤ zs.length ∧ i = .int .i64 k ∧ Hid (Below w.heap.size w wr)) (fun i _ => zs.length - (intOf i).toNat)
  case atStart => exact ⟨0, Nat.zero_le _, rfl, Below.refl _ _⟩
  case round =>
    obtain ⟨k, hk, rfl, HBk⟩ := hrel
    by_cases hlt : k < zs.length
    · have hltz : (k : Int) < (zs.length : Int) := by omega
      obtain ⟨b, o, rfl, hc⟩ := (HA.out.below HBk.out).at hlt
      obtain ⟨b2, o2, rfl, hc2⟩ := (HB.out.below HBk.out).at hlt
      have hne : (fld zs k != fld zs k) = false := by simp
      go_wp2_with fail
      go_quiet (fail)
      go_wp2
      go_roundw
      case rel => exact ⟨k + 1, by omega, by go_num, below_drewN HBk.out _⟩
      case measure => simp [intOf]; omega
    · have hltz : ¬ (k : Int) < (zs.length : Int) := by omega
      go_wp2
      go_ret
      exact ⟨rfl, HBk.out⟩
set_option maxRecDepth 100000 in
set_option maxHeartbeats 4000000 in
theorem sameElder_calls (t g0 g1 nx : Int) (free : List Int) (es : List (List Int)) (fa ea fb eb : Option Addr) (fc ec fd ed : Nat) (w : World) (hnf : free.length ≤ 100000) (hne : es.length ≤ 100000) (h1 : Nums w fa free) (h2 : Nums w fb free) (h3 : Recs w ea 10 es) (h4 : Recs w eb 10 es) :
    Calls Tryz.prog 26 #[elderV t g0 g1 nx (.slice fa free.length fc) (.slice ea es.length ec), elderV t g0 g1 nx (.slice fb free.length fd) (.slice eb es.length ed)] w fun e w' => e = .returned (.bool true) ∧ Below w.heap.size w w' := by
  obtain ⟨W, hW⟩ : ∃ W, (w.alloc (.cells #[.int .i64 t, .int .i64 g0, .int .i64 g1, .int .i64 nx, .slice fa free.length fc, .slice ea es.length ec] 26)).alloc (.cells #[.int .i64 t, .int .i64 g0, .int .i64 g1, .int .i64 nx, .slice fb free.length fd, .slice eb es.length ed] 26) = W := ⟨_, rfl⟩
  have hbW : Below w.heap.size w W := by rw [← hW]; exact ((Below.refl _ w).alloc (Nat.le_refl _) _).alloc (by simp [go_sem]) _
  have hsW : W.heap.size = w.heap.size + 2 := by rw [← hW]; simp [go_sem]
  have hh0 : W.heap[w.heap.size]? = some (.cells #[.int .i64 t, .int .i64 g0, .int .i64 g1, .int .i64 nx, .slice fa free.length fc, .slice ea es.length ec] 26) := by
    rw [← hW, heap_alloc_old _ _ (by simp [go_sem])]
    exact heap_alloc_new w _
  have hh1 : W.heap[w.heap.size + 1]? = some (.cells #[.int .i64 t, .int .i64 g0, .int .i64 g1, .int .i64 nx, .slice fb free.length fd, .slice eb es.length ed] 26) := by
    have e : w.heap.size + 1 = (w.alloc (.cells #[.int .i64 t, .int .i64 g0, .int .i64 g1, .int .i64 nx, .slice fa free.length fc, .slice ea es.length ec] 26)).heap.size := by simp [go_sem]
    rw [← hW, e]
    exact heap_alloc_new _ _
  obtain ⟨x0, x1, x2, x3, x4, x5⟩ := elder_cells hh0
  obtain ⟨y0, y1, y2, y3, y4, y5⟩ := elder_cells hh1
  have HN := hid (sameNumbers_calls fa fb fc fd free W hnf (h1.below hbW) (h2.below hbW))
  have HA := hid (h3.below hbW)
  have HB := hid (h4.below hbW)
  have HBW := hid hbW
  have HSW := hid hsW
  have H0 := hid hh0
  have H1 := hid hh1
  have hgs := gold_eq g0 g1
  have ht : (t != t) = false := by simp
  have hnx : (nx != nx) = false := by simp
  have hll : ((es.length : Int) != (es.length : Int)) = false := by simp
  clear h1 h2 h3 h4 hbW hsW hh0 hh1
  go_enter Tryz.func26, Tryz.ntmps26
  go_wp2_with fail
  refine HN.out.mono ?_
  rintro e w2 ⟨rfl, hb2⟩
  have hq0 := (hb2.block w.heap.size (by rw [HSW.out]; omega)).trans H0.out
  have hq1 := (hb2.block (w.heap.size + 1) (by rw [HSW.out]; omega)).trans H1.out
  obtain ⟨_, _, _, _, _, z5⟩ := elder_cells hq0
  obtain ⟨_, _, _, _, _, v5⟩ := elder_cells hq1
  have HB2 : Hid (Below W.heap.size W w2) := hb2
  clear x0 x1 x2 x3 x4 x5 y0 y1 y2 y3 y4 y5 HN hb2 hq0 hq1 hW hgs
  go_wp2_with fail
  clear z5 v5
  go_loopw [5] (fun i wr => ∃ k : Nat, k ≤ es.length ∧ i = .int .i64 k ∧ Hid (Below W.heap.size W wr)) (fun i _ => es.length - (intOf i).toNat)
  case atStart => exact ⟨0, Nat.zero_le _, rfl, HB2⟩
  case round =>
    clear HB2
    obtain ⟨k, hk, rfl, HBk⟩ := hrel
    have hq0 := (HBk.out.block w.heap.size (by rw [HSW.out]; omega)).trans H0.out
    have hq1 := (HBk.out.block (w.heap.size + 1) (by rw [HSW.out]; omega)).trans H1.out
    obtain ⟨_, _, _, _, _, z5⟩ := elder_cells hq0
    obtain ⟨_, _, _, _, _, v5⟩ := elder_cells hq1
    clear hq0 hq1
    by_cases hlt : k < es.length
    · have hltz : (k : Int) < (es.length : Int) := by omega
      obtain ⟨b, o, rfl, hb, l0, l1, l2, l3, l4, l5, l6, l7, l8, l9⟩ := (HA.out.below HBk.out).ten hlt
      obtain ⟨b', o', rfl, hb', m0, m1, m2, m3, m4, m5, m6, m7, m8, m9⟩ := (HB.out.below HBk.out).ten hlt
      generalize rec es k = u at l0 l1 l2 l3 l4 l5 l6 l7 l8 l9 m0 m1 m2 m3 m4 m5 m6 m7 m8 m9
      have heq := ent_eq u
      go_wp2_with fail
      go_quiet (fail)
      go_wp2
      go_roundw
      case rel => exact ⟨k + 1, by omega, by go_num, below_drewN HBk.out _⟩
      case measure => simp [intOf]; omega
    · have hltz : ¬ (k : Int) < (es.length : Int) := by omega
      have HF : Hid (Below w.heap.size w wr) := HBW.out.trans (HBk.out.mono (by rw [HSW.out]; omega))
      go_wp2
      go_ret
      exact ⟨rfl, HF.out⟩
end Go.Proofs.YtcbalhicaipmlaaGreat
namespace Go.Proofs.YtcbalhicaipmlaaGreat
open Go.RowKit Go.Maps
def tenZ (s : List Int) : List Int := [fld s 0, fld s 1, fld s 2, fld s 3, fld s 4, fld s 5, fld s 6, fld s 7, fld s 8, fld s 9]
theorem nums_four (w : World) (a b c d : Int) (t : TypeId) : Nums (w.alloc (.cells #[.int .i64 a, .int .i64 b, .int .i64 c, .int .i64 d] t)) (some ⟨w.heap.size, 0, none⟩) [a, b, c, d] := by
  refine Or.inr ⟨w.heap.size, 0, rfl, fun i hi => ?_⟩
  rw [cell_of_row _ _ (0 + i) _ _ _ (heap_alloc_new w _), Nat.zero_add]
  have hi' : i < 4 := hi
  match i, hi' with
  | 0, _ | 1, _ | 2, _ | 3, _ => rfl
theorem nums_ten (w : World) (s : List Int) (t : TypeId) : Nums (w.alloc (.cells (entC s) t)) (some ⟨w.heap.size, 0, none⟩) (tenZ s) := by
  refine Or.inr ⟨w.heap.size, 0, rfl, fun i hi => ?_⟩
  rw [cell_of_row _ _ (0 + i) _ _ _ (heap_alloc_new w _), Nat.zero_add]
  have hi' : i < 10 := hi
  match i, hi' with
  | 0, _ | 1, _ | 2, _ | 3, _ | 4, _ | 5, _ | 6, _ | 7, _ | 8, _ | 9, _ => rfl
end Go.Proofs.YtcbalhicaipmlaaGreat
namespace Go.Proofs.YtcbalhicaipmlaaGreat
open Go.RowKit
theorem nums_block {w w' : World} {g : Nat} {zs : List Int} (h : w'.heap[g]? = w.heap[g]?) (hn : Nums w (some ⟨g, 0, none⟩) zs) : Nums w' (some ⟨g, 0, none⟩) zs := by
  rcases hn with rfl | ⟨b, o, e, hc⟩
  · exact Or.inl rfl
  · cases e
    refine Or.inr ⟨g, 0, rfl, fun i hi => ?_⟩
    have := hc i hi
    unfold World.cell? at this ⊢
    simp only at this ⊢
    rw [h]
    exact this
theorem kept_block {b : Nat} {w w' : World} {k : Nat} {cs : Array Value} {t : TypeId} {fz : Nat × Nat} (hk : KeptW b w w') (h : w.heap[k]? = some (.cells cs t fz)) (hb : k ≠ b) (ht : t ≠ 5) : w'.heap[k]? = some (.cells cs t fz) :=
  hk k _ h (fun e => hb (by cases e; rfl)) (fun c fz' e => ht (by cases e; rfl))
theorem stays_new {B b : Nat} {w : World} {cs : Array Value} {zs : List Int} (hn : Nums (w.alloc (.cells cs 3)) (some ⟨w.heap.size, 0, none⟩) zs) (hb : b < w.heap.size) : Stays B b (w.alloc (.cells cs 3)) (some ⟨w.heap.size, 0, none⟩) zs := fun w' _ hk => by
  have h0 : (w.alloc (.cells cs 3)).heap[w.heap.size]? = some (.cells cs 3) := heap_alloc_new _ _
  exact nums_block ((kept_block hk h0 (by omega) (by decide)).trans h0.symm) hn
theorem numsL_nil : numsL [] = [] := rfl
theorem recs_take {k n : Nat} {es : List (List Int)} (h : n < es.length) : (es.take (n + 1)).flatMap (normK k) = (es.take n).flatMap (normK k) ++ normK k (rec es n) := by
  rw [take_rec h, List.flatMap_append]
  simp
theorem flat_norm_length (k : Nat) : ∀ es : List (List Int), (es.flatMap (normK k)).length = k * es.length
  | [] => rfl
  | u :: es => by
    rw [List.flatMap_cons, List.length_append, flat_norm_length k es, normK_length, List.length_cons, Nat.mul_succ]
    omega
theorem put_fresh (B b : Nat) (l : List UInt8) (cs : Array Value) (zs : List Int) (w : World) (h : IsW B b l w) (hn : Nums (w.alloc (.cells cs 3)) (some ⟨w.heap.size, 0, none⟩) zs) (hz : ∀ z ∈ zs, Sml z) (hl : l.length + 9 * zs.length ≤ 1000000) (hB : B ≤ w.heap.size) :
    Calls Tryz.prog 99 #[.pointer (some ⟨b, 0, none⟩), .slice (some ⟨w.heap.size, 0, none⟩) zs.length zs.length] (w.alloc (.cells cs 3)) fun e w' => e = .returned (.tuple #[]) ∧ IsW B b (l ++ numsL zs) w' ∧ Below B w w' ∧ KeptW b w w' := by
  have hbW : Below w.heap.size w (w.alloc (.cells cs 3)) := (Below.refl _ _).alloc (Nat.le_refl _) _
  refine (put_calls B b l _ zs.length zs _ (h.below hbW) (stays_new hn h.lt) hz hl (by have := hbW.size; omega)).mono ?_
  rintro e w' ⟨rfl, h1, h2, h3⟩
  exact ⟨rfl, h1, (hbW.mono hB).trans h2, (kept_below (Lib.OthersKept.refl _ _ w) hbW).trans h3⟩
set_option maxHeartbeats 4000000 in
set_option maxRecDepth 100000 in
theorem writeElder_calls (B b : Nat) (l : List UInt8) (s : St) (fa ea : Option Addr) (fc ec : Nat) (w : World) (h : IsW B b l w) (hin : ∀ w', Below B w w' → InE w' s fa ea fc ec) (hm : SmlS 10 s) (hl : l.length ≤ 100000) (hB : B ≤ w.heap.size) :
    Calls Tryz.prog 65 #[.pointer (some ⟨b, 0, none⟩), elderV s.t s.g0 s.g1 s.nx (.slice fa s.free.length fc) (.slice ea s.es.length ec)] w fun e w' => e = .returned (.tuple #[]) ∧ IsW B b (l ++ numsL (elderN s)) w' ∧ Below B w w' ∧ KeptW b w w' := by
  obtain ⟨W, hW⟩ : ∃ W, w.alloc (.cells (elC s.t s.g0 s.g1 s.nx (.slice fa s.free.length fc) (.slice ea s.es.length ec)) 26) = W := ⟨_, rfl⟩
  have hbW : Below w.heap.size w W := by rw [← hW]; exact (Below.refl _ w).alloc (Nat.le_refl _) _
  have hsW : W.heap.size = w.heap.size + 1 := by rw [← hW]; simp [go_sem]
  have hh0 : W.heap[w.heap.size]? = some (.cells (elC s.t s.g0 s.g1 s.nx (.slice fa s.free.length fc) (.slice ea s.es.length ec)) 26) := by rw [← hW]; exact heap_alloc_new _ _
  have hbB : b < w.heap.size := h.lt
  have HW : Hid (IsW B b l W) := h.below hbW
  have HKW : Hid (KeptW b w W) := kept_below (Lib.OthersKept.refl _ _ w) hbW
  have HBW : Hid (Below B w W) := hbW.mono hB
  have HIN := hid hin
  have HM := hid hm
  have HSW := hid hsW
  have hfl := hm.fl
  have hel := hm.el
  have hln4 := numsL_length [s.t, s.g0, s.g1, s.nx]
  obtain ⟨x0, x1, x2, x3, x4, x5⟩ := elder_cells hh0
  have HBOX : Hid (∀ wx, KeptW b W wx → wx.heap[w.heap.size]? = some (.cells (elC s.t s.g0 s.g1 s.nx (.slice fa s.free.length fc) (.slice ea s.es.length ec)) 26)) := fun wx hk => kept_block hk hh0 (by omega) (by decide)
  have HP1 := hid (put_fresh B b l _ [s.t, s.g0, s.g1, s.nx] W HW.out (nums_four W s.t s.g0 s.g1 s.nx 3) (head_sml hm) (by simp; omega) (by omega))
  clear h hin hm hbW hsW hh0
  go_enter Tryz.func65, Tryz.ntmps65
  go_wp2_with fail
  refine HP1.out.mono ?_
  rintro e w2 ⟨rfl, hw2, hb2, hk2⟩
  have hB2 : Below B w w2 := HBW.out.trans hb2
  have HK2 := hid hk2
  obtain ⟨l2, hl2⟩ : ∃ l2, l ++ numsL [s.t, s.g0, s.g1, s.nx] = l2 := ⟨_, rfl⟩
  rw [hl2] at hw2
  have hll2 : l2.length ≤ 100036 := by rw [← hl2, List.length_append]; simp at hln4; omega
  have HL2 := hid hl2
  clear hl2 x0 x1 x2 x3 x4 x5 hW HP1 hk2 hb2
  obtain ⟨x0, x1, x2, x3, x4, x5⟩ := elder_cells (HBOX.out w2 HK2.out)
  have HP2 := hid (put_fresh B b l2 _ [(s.free.length : Int)] w2 hw2 (nums_one w2 _ 3) (by intro z hz; rw [List.mem_singleton.1 hz]; exact ⟨by omega, by omega⟩) (by simp; omega) (by have := hB2.size; omega))
  have HB2 := hid hB2
  clear hw2 hB2
  go_wp2_with fail
  refine HP2.out.mono ?_
  rintro e w3 ⟨rfl, hw3, hb3, hk3⟩
  have hB3 : Below B w w3 := HB2.out.trans hb3
  have hK3 : KeptW b W w3 := HK2.out.trans hk3
  obtain ⟨l3, hl3⟩ : ∃ l3, l2 ++ numsL [(s.free.length : Int)] = l3 := ⟨_, rfl⟩
  rw [hl3] at hw3
  have hll3 : l3.length ≤ 100045 := by
    have := numsL_length [(s.free.length : Int)]
    simp at this
    rw [← hl3, List.length_append]; omega
  have HL3 := hid hl3
  obtain ⟨y0, y1, y2, y3, y4, y5⟩ := elder_cells (HBOX.out w3 hK3)
  have hst : Stays B b w3 fa s.free := fun wx hx _ => (HIN.out wx (hB3.trans hx)).nums
  have HP3 := hid (put_calls B b l3 fa fc s.free w3 hw3 hst HM.out.fr (by omega) (by have := hB3.size; omega))
  have HB3 := hid hB3
  have HK3 := hid hK3
  clear hl3 x0 x1 x2 x3 x4 x5 HP2 hk3 hb3 hw3 hst hB3 hK3
  go_wp2_with fail
  refine HP3.out.mono ?_
  rintro e w4 ⟨rfl, hw4, hb4, hk4⟩
  have hB4 : Below B w w4 := HB3.out.trans hb4
  have hK4 : KeptW b W w4 := HK3.out.trans hk4
  obtain ⟨l4, hl4⟩ : ∃ l4, l3 ++ numsL s.free = l4 := ⟨_, rfl⟩
  rw [hl4] at hw4
  have hll4 : l4.length ≤ 110000 := by
    have := numsL_length s.free
    rw [← hl4, List.length_append]; omega
  have HL4 := hid hl4
  obtain ⟨x0, x1, x2, x3, x4, x5⟩ := elder_cells (HBOX.out w4 hK4)
  clear hl4 y0 y1 y2 y3 y4 y5 HP3 hk4 hb4
  have HP5 := hid (put_fresh B b l4 _ [(s.es.length : Int)] w4 hw4 (nums_one w4 _ 3) (by intro z hz; rw [List.mem_singleton.1 hz]; exact ⟨by omega, by omega⟩) (by simp; omega) (by have := hB4.size; omega))
  have HB4 := hid hB4
  have HK4 := hid hK4
  clear hw4 hB4 hK4
  go_wp2_with fail
  refine HP5.out.mono ?_
  rintro e w5 ⟨rfl, hw5, hb5, hk5⟩
  have hB5 : Below B w w5 := HB4.out.trans hb5
  have hK5 : KeptW b W w5 := HK4.out.trans hk5
  obtain ⟨l5, hl5⟩ : ∃ l5, l4 ++ numsL [(s.es.length : Int)] = l5 := ⟨_, rfl⟩
  rw [hl5] at hw5
  have hll5 : l5.length ≤ 110100 := by
    have := numsL_length [(s.es.length : Int)]
    simp at this
    rw [← hl5, List.length_append]; omega
  have HL5 := hid hl5
  have HI5 : Hid (IsW B b l5 w5 ∧ Below B w w5 ∧ KeptW b W w5) := ⟨hw5, hB5, hK5⟩
  clear hl5 x0 x1 x2 x3 x4 x5 HP5 hk5 hb5 hw5
  obtain ⟨x0, x1, x2, x3, x4, x5⟩ := elder_cells (HBOX.out w5 hK5)
  clear hB5 hK5
  go_wp2_with fail
  go_loopw [38] (fun i wr => ∃ k : Nat, k ≤ s.es.length ∧ i = .int .i64 k ∧ Hid (IsW B b (l5 ++ numsL ((s.es.take k).flatMap (normK 10))) wr ∧ Below B w wr ∧ KeptW b W wr)) (fun i _ => s.es.length - (intOf i).toNat)
  case atStart => exact ⟨0, Nat.zero_le _, rfl, by rw [List.take_zero]; show IsW B b (l5 ++ []) w5; rw [List.append_nil]; exact HI5.out.1, HI5.out.2⟩
  case round =>
    obtain ⟨k, hk, rfl, HR⟩ := hrel
    by_cases hlt : k < s.es.length
    · have hltz : (k : Int) < (s.es.length : Int) := by omega
      obtain ⟨q, o, rfl, hq, q0, q1, q2, q3, q4, q5, q6, q7, q8, q9⟩ := (HIN.out wr HR.out.2.1).rows.ten hlt
      have hN : numsL ((s.es.take (k + 1)).flatMap (normK 10)) = numsL ((s.es.take k).flatMap (normK 10)) ++ numsL (normK 10 (rec s.es k)) := by rw [recs_take hlt, numsL_append]
      have hu : ∀ z ∈ normK 10 (rec s.es k), Sml z := fun z hz => by
        unfold normK at hz
        obtain ⟨j, hj, rfl⟩ := List.mem_map.1 hz
        exact HM.out.es _ (rec_mem hlt) j (List.mem_range.1 hj)
      have hlen : (l5 ++ numsL ((s.es.take k).flatMap (normK 10))).length ≤ 120000 := by
        have h1 := numsL_length ((s.es.take k).flatMap (normK 10))
        rw [flat_norm_length, List.length_take] at h1
        rw [List.length_append]
        omega
      generalize rec s.es k = u at q0 q1 q2 q3 q4 q5 q6 q7 q8 q9 hN hu
      obtain ⟨X, hX⟩ : ∃ X, wr.alloc (.cells (entC u) 119) = X := ⟨_, rfl⟩
      have hbX : Below wr.heap.size wr X := by rw [← hX]; exact (Below.refl _ _).alloc (Nat.le_refl _) _
      have hhX : X.heap[wr.heap.size]? = some (.cells (entC u) 119) := by rw [← hX]; exact heap_alloc_new _ _
      have z0 : X.cell? ⟨wr.heap.size, 0, none⟩ = some (.int .i64 (fld u 0)) := cell_of_row X _ 0 _ _ _ hhX
      have z1 : X.cell? ⟨wr.heap.size, 1, none⟩ = some (.int .i64 (fld u 1)) := cell_of_row X _ 1 _ _ _ hhX
      have z2 : X.cell? ⟨wr.heap.size, 2, none⟩ = some (.int .i64 (fld u 2)) := cell_of_row X _ 2 _ _ _ hhX
      have z3 : X.cell? ⟨wr.heap.size, 3, none⟩ = some (.int .i64 (fld u 3)) := cell_of_row X _ 3 _ _ _ hhX
      have z4 : X.cell? ⟨wr.heap.size, 4, none⟩ = some (.int .i64 (fld u 4)) := cell_of_row X _ 4 _ _ _ hhX
      have z5 : X.cell? ⟨wr.heap.size, 5, none⟩ = some (.int .i64 (fld u 5)) := cell_of_row X _ 5 _ _ _ hhX
      have z6 : X.cell? ⟨wr.heap.size, 6, none⟩ = some (.int .i64 (fld u 6)) := cell_of_row X _ 6 _ _ _ hhX
      have z7 : X.cell? ⟨wr.heap.size, 7, none⟩ = some (.int .i64 (fld u 7)) := cell_of_row X _ 7 _ _ _ hhX
      have z8 : X.cell? ⟨wr.heap.size, 8, none⟩ = some (.int .i64 (fld u 8)) := cell_of_row X _ 8 _ _ _ hhX
      have z9 : X.cell? ⟨wr.heap.size, 9, none⟩ = some (.int .i64 (fld u 9)) := cell_of_row X _ 9 _ _ _ hhX
      have hBX : Below B w X := HR.out.2.1.trans (hbX.mono (by have := HR.out.2.1.size; omega))
      have HPX := hid (put_fresh B b _ _ (normK 10 u) X (HR.out.1.below hbX) (nums_ten X u 3) hu (by rw [normK_length]; omega) (by have := hBX.size; omega))
      have HBX := hid hBX
      have HKX : Hid (KeptW b W X) := kept_below HR.out.2.2 hbX
      have HN := hid hN
      rw [normK_length] at HPX
      clear hbX hhX hBX hN hu hlen HR
      go_wp2_with fail
      refine HPX.out.mono ?_
      rintro e w6 ⟨rfl, hw6, hb6, hk6⟩
      have HR6 : Hid (IsW B b (l5 ++ numsL ((s.es.take (k + 1)).flatMap (normK 10))) w6 ∧ Below B w w6 ∧ KeptW b W w6) := ⟨by rw [HN.out, ← List.append_assoc]; exact hw6, HBX.out.trans hb6, HKX.out.trans hk6⟩
      clear hw6 hb6 hk6 HPX z0 z1 z2 z3 z4 z5 z6 z7 z8 z9 q0 q1 q2 q3 q4 q5 q6 q7 q8 q9 hX
      go_wp2
      go_roundw
      case rel => exact ⟨k + 1, by omega, by go_num, HR6.out⟩
      case measure => simp [intOf]; omega
    · have hltz : ¬ (k : Int) < (s.es.length : Int) := by omega
      have e : s.es.take k = s.es := List.take_of_length_le (by omega)
      rw [e] at HR
      go_wp2
      go_end0
      have eN : l5 ++ numsL (s.es.flatMap (normK 10)) = l ++ numsL (elderN s) := by
        unfold elderN recsN
        simp only [numsL_append, numsL_cons, numsL_nil, List.append_assoc, List.nil_append]
        rw [← HL5.out, ← HL4.out, ← HL3.out, ← HL2.out]
        simp only [numsL_cons, numsL_nil, List.append_assoc, List.nil_append]
      exact ⟨rfl, by rw [← eN]; exact HR.out.1, HR.out.2.1, HKW.out.trans HR.out.2.2⟩
end Go.Proofs.YtcbalhicaipmlaaGreat
