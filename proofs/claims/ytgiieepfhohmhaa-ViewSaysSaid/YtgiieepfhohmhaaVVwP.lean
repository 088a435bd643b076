/- Package view: places by ID, what is seen of one, the entities of units. -/
import Derived.Test.YtgiieepfhohmhaaVOkA
import Derived.Test.YtgiieepfhohmhaaVVwO
namespace Go.Proofs.Ytgiieepfhohmhaa
open Go.RowKit Go.Maps
theorem zero_placeV (w : World) : (zeroValue 221).run Try.prog w = .ok (plV (0, 0)) w := by kernel_rfl
theorem kind_places : Kind 217 3 221 inV (plV (0, 0)) := ⟨Try.underlying217, finds_int, check_int, zero_placeV, fun k => by simp [Instr.sameBits]⟩
def spotZ (es : List (List Int)) (z : Int) : Int × Int := es.foldl (fun p e => if z = fld e 0 then (fld e 3, fld e 4) else p) (if z = 0 then (-1, -1) else (0, 0))
def spotsL (es : List (List Int)) : List (Int × Value) := es.foldl (fun l e => putL (fld e 0) (plV (fld e 3, fld e 4)) l) [((0 : Int), plV (-1, -1))]
theorem spots_get (z : Int) : ∀ (es : List (List Int)) (l : List (Int × Value)) (p : Int × Int), (getL z l).getD (plV (0, 0)) = plV p → (getL z (es.foldl (fun l e => putL (fld e 0) (plV (fld e 3, fld e 4)) l) l)).getD (plV (0, 0)) = plV (es.foldl (fun p e => if z = fld e 0 then (fld e 3, fld e 4) else p) p)
  | [], _, _, h => h
  | e :: es, l, p, h => by
    rw [List.foldl_cons, List.foldl_cons]
    refine spots_get z es _ _ ?_
    rw [getL_put]
    by_cases hz : z = fld e 0
    · rw [if_pos hz, if_pos hz]; rfl
    · rw [if_neg hz, if_neg hz]; exact h
theorem spots_at (es : List (List Int)) (z : Int) : (getL z (spotsL es)).getD (plV (0, 0)) = plV (spotZ es z) := by
  refine spots_get z es _ _ ?_
  rw [getL_cons, getL_nil]
  by_cases hz : z = 0
  · rw [if_pos hz, if_pos hz]; rfl
  · rw [if_neg hz, if_neg hz]; rfl
theorem spots_next (es : List (List Int)) {k : Nat} (hk : k < es.length) : spotsL (es.take (k + 1)) = putL (fld (rec es k) 0) (plV (fld (rec es k) 3, fld (rec es k) 4)) (spotsL (es.take k)) := by
  unfold spotsL
  rw [take_rec hk, List.foldl_append]
  rfl
set_option maxRecDepth 100000 in
set_option maxHeartbeats 2000000 in
theorem places_calls (es : List (List Int)) (ea : Option Addr) (ec : Nat) (w : World) (hr : Recs w ea 10 es) (hl : es.length ≤ 1000) :
    Calls Try.prog 167 #[.slice ea es.length ec] w fun e w' => ∃ B, e = .returned (.map (some B)) ∧ PM w' B inV (spotsL es) ∧ Below w.heap.size w w' := by
  have hmm := @run_makeMap Try.prog
  obtain ⟨W, hr1, hp1, hg1⟩ := PM.put kind_places (PM.made w inV) 0 (plV (-1, -1))
  have hbW : Below w.heap.size w W := ((Below.refl _ w).alloc (Nat.le_refl _) (.map #[] 0)).grown hg1 (by simp [go_sem]) (fun k hk => by cases hk; exact Nat.le_refl _)
  have HP : Hid (PM W w.heap.size inV (spotsL (es.take 0))) := hp1
  have HR := hid hr
  have HBW := hid hbW
  clear hr hp1 hg1 hbW
  go_enter Try.func167, Try.ntmps167
  go_wp2_with fail
  clear hr1 hmm
  go_loopw [11] (fun i wr => ∃ k : Nat, k ≤ es.length ∧ i = .int .i64 k ∧ Hid (PM wr w.heap.size inV (spotsL (es.take k)) ∧ Below w.heap.size w wr)) (fun i _ => es.length - (intOf i).toNat)
  case atStart => exact ⟨0, Nat.zero_le _, rfl, HP.out, HBW.out⟩
  case round =>
    clear HP HBW
    obtain ⟨k, hk, rfl, HM⟩ := hrel
    by_cases hlt : k < es.length
    · have hltz : (k : Int) < (es.length : Int) := by omega
      obtain ⟨b, o, rfl, hb, l0, l1, l2, l3, l4, l5, l6, l7, l8, l9⟩ := (HR.out.below HM.out.2).ten hlt
      have HN := hid (spots_next es hlt)
      generalize rec es k = u at l0 l1 l2 l3 l4 l5 l6 l7 l8 l9 HN
      obtain ⟨X, hX⟩ : ∃ X, wr.alloc (.cells (entC u) 86) = X := ⟨_, rfl⟩
      have hbX : Below wr.heap.size wr X := by rw [← hX]; exact (Below.refl _ _).alloc (Nat.le_refl _) _
      have hpX := HM.out.1.below hbX
      have hhX : X.heap[wr.heap.size]? = some (.cells (entC u) 86) := by rw [← hX]; exact heap_alloc_new _ _
      have z0 : X.cell? ⟨wr.heap.size, 0, none⟩ = some (.int .i64 (fld u 0)) := cell_of_row X _ 0 _ _ _ hhX
      have z3 : X.cell? ⟨wr.heap.size, 3, none⟩ = some (.int .i64 (fld u 3)) := cell_of_row X _ 3 _ _ _ hhX
      have z4 : X.cell? ⟨wr.heap.size, 4, none⟩ = some (.int .i64 (fld u 4)) := cell_of_row X _ 4 _ _ _ hhX
      obtain ⟨Y, hr5, hp5, hg5⟩ := PM.put kind_places hpX (fld u 0) (plV (fld u 3, fld u 4))
      have hwX : w.heap.size ≤ X.heap.size := Nat.le_trans HM.out.2.size hbX.size
      have HBY : Hid (Below w.heap.size w Y) := (HM.out.2.trans (hbX.mono HM.out.2.size)).trans (grown_to_below hg5 (Nat.le_refl _) hwX)
      rw [← HN.out] at hp5
      have HP5 := hid hp5
      clear hp5 hg5 hbX hpX HM hhX
      go_wp2
      go_roundw
      case rel => exact ⟨k + 1, by omega, by go_num, HP5.out, HBY.out⟩
      case measure => simp [intOf]; omega
    · have hltz : ¬ (k : Int) < (es.length : Int) := by omega
      have e : es.take k = es := List.take_of_length_le (by omega)
      rw [e] at HM
      go_wp2
      go_ret
      exact ⟨w.heap.size, rfl, HM.out.1, HM.out.2⟩
def seenZ (e : List Int) (p : Int × Int) : List Int := [fld e 3, fld e 4, fld e 1, fld e 2, fld e 5, fld e 6, fld e 7, fld e 8, p.1, p.2]
set_option maxRecDepth 100000 in
set_option maxHeartbeats 2000000 in
theorem seen_calls (u : List Int) (p : Int × Int) (w : World) :
    Calls Try.prog 168 #[entV u, plV p] w fun e w' => e = .returned (entV (seenZ u p)) ∧ Below w.heap.size w w' := by
  obtain ⟨x, y⟩ := p
  go_enter Try.func168, Try.ntmps168
  go_wp2
  refine bodyPost_ret (v := entV (seenZ u (x, y))) (by simp [results, Try.results168, go_sem]; exact ⟨rfl, rfl, rfl, rfl, rfl, rfl, rfl, rfl, rfl, rfl⟩) rfl ⟨rfl, ?_⟩
  exact (((Below.refl _ w).alloc (Nat.le_refl _) _).alloc (by simp [go_sem]) _).alloc (by simp [go_sem]; omega) _
def RowS (base : Nat) (w : World) (v : Value) (us : List (List Int)) : Prop := w.ownsRow base 171 10 v us.length (flat 10 us)
theorem RowS.open {base : Nat} {w : World} {v : Value} {us : List (List Int)} (h : RowS base w v us) : ∃ ea c, v = .slice ea us.length c ∧ us.length ≤ c ∧ Recs w ea 10 us ∧ (0 < us.length → ∃ g, ea = some ⟨g, 0, none⟩ ∧ base ≤ g ∧ g < w.heap.size) := by
  have h' := h
  rcases h.2 with ⟨rfl, h0⟩ | ⟨g, cap, cur, rfl, hb, hg, hn, hm, hs, ht⟩
  · refine ⟨none, 0, by rw [h0], by omega, Or.inl (List.eq_nil_of_length_eq_zero h0), fun h => by omega⟩
  · refine ⟨some ⟨g, 0, none⟩, cap, rfl, hn, Or.inr ⟨g, 0, rfl, fun i hi j hj => ?_⟩, fun _ => ⟨g, rfl, hb, (Array.getElem?_eq_some_iff.1 hg).1⟩⟩
    have hlt : i * 10 + j < us.length * 10 := by omega
    rw [Nat.zero_add, World.ownsRow.cellAt h' _ hlt, flat_get hj, if_pos hi]
abbrev zeroSeen : Value := .agg #[.int .i64 0, .int .i64 0, .int .i64 0, .int .i64 0, .int .i64 0, .int .i64 0, .int .i64 0, .int .i64 0, .int .i64 0, .int .i64 0]
theorem info_seen : (Try.prog.info? 171).map (fun i => (i.zero, i.size, i.bytes)) = some (some zeroSeen, 10, 80) := by kernel_rfl
theorem flatS_src {w : World} {b o : Nat} {xs : List (List Int)} (h : ∀ i, i < xs.length → ∀ j, j < 10 → w.cell? ⟨b, o + i * 10 + j, none⟩ = some (.int .i64 (fld (rec xs i) j))) : ∀ j u, (flat 10 xs)[j]? = some u → w.cell? ((⟨b, o, none⟩ : Addr).add j) = some u := by
  intro m u hm
  have e : m = (m / 10) * 10 + m % 10 := by omega
  have hr : m % 10 < 10 := Nat.mod_lt _ (by omega)
  generalize m / 10 = q at e
  generalize m % 10 = r at e hr
  subst e
  rw [flat_get hr] at hm
  split at hm
  next hq =>
    rw [add_off, ← Nat.add_assoc, h q hq r hr]
    exact hm
  · cases hm
theorem rowRunS (w : World) (base : Nat) (ty : TypeId) (v : Value) (es : List (List Int)) (hown : RowS base w v es) (xa : Option Addr) (xc : Nat) (xs : List (List Int)) (hx : Recs w xa 10 xs) (hnil : xa = none → xc = 0)
    (hlen : es.length + xs.length ≤ 100000) (hbase : base ≤ w.heap.size) :
    ∃ v' w', (Builtin.append_ #[113, 113] ty #[v, .slice xa xs.length xc]).run Try.prog w = .ok v' w' ∧ RowS base w' v' (es ++ xs) ∧ w.grownBy w' v.ownBlock ∧ (v'.ownBlock = v.ownBlock ∨ v'.ownBlock = some w.heap.size) := by
  obtain ⟨i0, hi, hz0, hz1, hz2⟩ := info_parts info_seen
  rcases xa with _ | ad
  · have hx0 : xs = [] := by
      rcases hx with h | ⟨b, o, h, _⟩
      · exact h
      · cases h
    subst hx0
    rw [hnil rfl]
    have hrun := run_append_owned_none (P := Try.prog) (w := w) base 113 ty 171 i0 10 Try.underlying113 hi v _ _ hown
    refine ⟨v, w, hrun, by rw [List.append_nil]; exact hown, ⟨rfl, rfl, rfl, Nat.le_refl _, fun _ _ _ => rfl⟩, Or.inl rfl⟩
  · have hsrc : ∀ j u, (flat 10 xs)[j]? = some u → w.cell? (ad.add j) = some u := by
      rcases hx with h | ⟨b', o', h, hc⟩
      · subst h
        intro j u hj
        simp [flat] at hj
      · cases h
        exact flatS_src hc
    obtain ⟨v', w', hr, h2, h3, h4, h5⟩ := run_append_own_at (P := Try.prog) w base 113 ty 171 i0 zeroSeen 10 80 Try.underlying113 hi hz0 hz1 hz2 rfl (by decide) v _ _ hown ad xs.length xc (flat 10 xs) (flat_length 10 xs) hsrc (flat_one xs 10) (by unfold maxLen; omega) (by omega) hbase
    refine ⟨v', w', hr, ?_, h3, h5⟩
    unfold RowS
    rw [List.length_append, flat_append]
    exact h2
theorem wp_rowsS {ops : Array Oper} {rest : List Oper} {o : Oper} {a : Act} {Q : Exit → Act → World → Prop} (w : World) (hgd : o.guard = none) (s x : Operand)
    (ho : o.op = .call { callee := .builtin .append, args := #[s, x], argTypes := #[113, 113] }) (base : Nat) (v : Value) (es : List (List Int)) (hs : a.eval s = v) (hown : RowS base w v es)
    (xa : Option Addr) (xc : Nat) (xs : List (List Int)) (hxe : a.eval x = .slice xa xs.length xc) (hx : Recs w xa 10 xs) (hnil : xa = none → xc = 0) (hlen : es.length + xs.length ≤ 100000) (hbase : base ≤ w.heap.size)
    (h : ∀ v' w', RowS base w' v' (es ++ xs) → w.grownBy w' v.ownBlock → (v'.ownBlock = v.ownBlock ∨ v'.ownBlock = some w.heap.size) → wpList Try.prog ops Q rest (a.put o.dst v') w') : wpList Try.prog ops Q (o :: rest) a w := by
  refine wpList_plain hgd fun K hK => ?_
  obtain ⟨v', w', hr, h2, h3, h4⟩ := rowRunS w base o.type v es hown xa xc xs hx hnil hlen hbase
  unfold Oper.wp execOp
  simp only [ho, resolve, invoke, builtin, Sem.run_bind, Sem.run_pure, Result.andThen_ok, List.map_toArray, List.map_cons, List.map_nil, hs, hxe, hr]
  exact hK _ _ (h v' w' h2 h3 h4)
set_option maxRecDepth 100000 in
set_option maxHeartbeats 4000000 in
theorem ents_calls (us : List (List Int)) (ua : Option Addr) (uc : Nat) (w : World) (hr : Recs w ua 11 us) (hl : us.length ≤ 1000) :
    Calls Try.prog 115 #[.slice ua us.length uc] w fun e w' => ∃ v, e = .returned v ∧ Row w.heap.size w' v (us.map tenZ) ∧ Below w.heap.size w w' := by
  have HR := hid hr
  clear hr
  go_enter Try.func115, Try.ntmps115
  go_wp2_with fail
  go_loopw [3, 8] (fun v i wr => ∃ k : Nat, k ≤ us.length ∧ i = .int .i64 k ∧ Hid (Row w.heap.size wr v ((us.take k).map tenZ) ∧ Below w.heap.size w wr)) (fun _ i _ => us.length - (intOf i).toNat)
  case atStart => exact ⟨0, Nat.zero_le _, rfl, World.ownsRow_nil _ _ _ _, Below.refl _ _⟩
  case round =>
    obtain ⟨k, hk, rfl, HM⟩ := hrel
    have hrow := HM.out.1
    have HBr := hid HM.out.2
    obtain ⟨va, vc, rfl, _, _, _⟩ := hrow.open
    have HRW := hid hrow
    clear hrow
    by_cases hlt : k < us.length
    · have hltz : (k : Int) < (us.length : Int) := by omega
      obtain ⟨b, o, rfl, hc⟩ := (HR.out.below HBr.out).at hlt
      have l0 : wr.cell? ⟨b, o + k * 11, none⟩ = some (.int .i64 (fld (rec us k) 0)) := hc 0 (by omega)
      have l1 := hc 1 (by omega)
      have l2 := hc 2 (by omega)
      have l3 := hc 3 (by omega)
      have l4 := hc 4 (by omega)
      have l5 := hc 5 (by omega)
      have l6 := hc 6 (by omega)
      have l7 := hc 7 (by omega)
      have l8 := hc 8 (by omega)
      have l9 := hc 9 (by omega)
      have l10 := hc 10 (by omega)
      have hlen : ((us.take k).map tenZ).length ≤ 1000 := by rw [List.length_map, List.length_take]; omega
      have HN : Hid ((us.take k).map tenZ ++ [tenZ (rec us k)] = (us.take (k + 1)).map tenZ) := by
        show _ = _
        rw [take_rec hlt, List.map_append]
        rfl
      generalize rec us k = u at l0 l1 l2 l3 l4 l5 l6 l7 l8 l9 l10 HN
      generalize (us.take k).map tenZ = L at HN HRW hlen ⊢
      obtain ⟨X, hX⟩ : ∃ X, wr.alloc (.cells (unitC u) 110) = X := ⟨_, rfl⟩
      have hbX : Below wr.heap.size wr X := by rw [← hX]; exact (Below.refl _ _).alloc (Nat.le_refl _) _
      have hrX : Row w.heap.size X (.slice va L.length vc) L := by rw [← hX]; exact World.ownsRow.alloc HRW.out _
      have HBX : Hid (Below w.heap.size w X) := HBr.out.trans (hbX.mono HBr.out.size)
      have HRX := hid hrX
      have hsX : X.heap.size = wr.heap.size + 1 := by rw [← hX]; simp [go_sem]
      have HXX := hid hX
      have HSX := hid hsX
      clear hbX hrX hX hsX hc HM
      go_wp2_with (first
        | (at_builtin; rw [HXX.out, ← HSX.out]; refine wp_rows (X.alloc (.cells (entC (tenZ u)) 86)) (by rfl) (.tmp 12) (.tmp 34) (by rfl) w.heap.size (.slice va L.length vc) L (by rfl) (World.ownsRow.alloc HRX.out _) (some ⟨X.heap.size, 0, none⟩) 1 [tenZ u] (by rfl) (recs_one X (tenZ u) _) (fun h => by cases h) (show L.length + 1 ≤ 100000 by omega) (by have := HBX.out.size; simp [go_sem]; omega) ?_
           intro v6 w6 hr6 hg6 hl6
           have hb6 : Below w.heap.size w w6 := (HBX.out.alloc HBX.out.size _).grown hg6 (by have := HBX.out.size; simp [go_sem]; omega) (fun k hk => (World.ownsRow.lt HRX.out k hk).1)
           rw [HN.out] at hr6
           have HR6 := hid hr6
           have HB6 := hid hb6
           clear hr6 hg6 hl6 hb6))
      go_roundw
      case rel => exact ⟨k + 1, by omega, by go_num, HR6.out, HB6.out⟩
      case measure => simp [intOf]; omega
    · have hltz : ¬ (k : Int) < (us.length : Int) := by omega
      have e : us.take k = us := List.take_of_length_le (by omega)
      rw [e] at HRW ⊢
      have HR2 : Hid (Row w.heap.size wr (.slice va us.length vc) (us.map tenZ)) := by
        have h := HRW.out
        rw [List.length_map] at h
        exact h
      go_wp2
      go_ret
      first | exact ⟨HR2.out, HBr.out⟩ | exact ⟨_, rfl, HR2.out, HBr.out⟩
end Go.Proofs.Ytgiieepfhohmhaa
