/- Package snap: what is ordered. -/
import Derived.BigQuiet
import Derived.Test.YtcbalhicaipmlaaGreatRNwK
import Derived.Test.YtcbalhicaipmlaaGreatRSnB
import Derived.Test.YtcbalhicaipmlaaGreatRCkB
import Derived.Test.YtcbalhicaipmlaaGreatREsRA
import Derived.Test.YtcbalhicaipmlaaGreatRNwF
import Derived.Test.YtcbalhicaipmlaaGreatRRefO
import Derived.Test.YtcbalhicaipmlaaGreatRRefQ
namespace Go.Proofs.YtcbalhicaipmlaaGreat
open Go.RowKit
set_option maxHeartbeats 1000000 in
theorem tooMany1O_calls (la : Option Addr) (n lc : Nat) (w : World) :
    Calls Tryz.prog 125 #[.slice la n lc] w fun e w' => e = .returned (.bool (decide (8 < n))) ∧ w' = w := by
  by_cases h : 8 < n
  · rw [decide_eq_true h]
    have hz : (8 : Int) < (n : Int) := by omega
    go_enter Tryz.func125, Tryz.ntmps125
    go_wp2
    go_ret
    exact ⟨rfl, rfl⟩
  · rw [decide_eq_false h]
    have hz : ¬ (8 : Int) < (n : Int) := by omega
    go_enter Tryz.func125, Tryz.ntmps125
    go_wp2
    go_ret
    exact ⟨rfl, rfl⟩
set_option maxHeartbeats 2000000 in
theorem indexO_calls (ls : List (List (List Int))) (ta : Option Addr) (tc : Nat) (w : World) (hn : ls.length ≤ 1000) (ht : TksN w ta ls) :
    Calls Tryz.prog 139 #[.slice ta ls.length tc, .func (.func 125) #[] #[]] w (IdxP (tooM ls) w) := by
  have eg : ∀ args w, (callFunc 125 args).run Tryz.prog w = .ok (.enter 125 args) w := enters_of Tryz.func125 (by kernel_rfl) rfl
  have HT := hid ht
  clear ht
  go_enter Tryz.func139, Tryz.ntmps139
  go_wp2
  go_loopw [8] (fun i wr => ∃ k : Nat, k ≤ ls.length ∧ i = .int .i64 k ∧ Hid (wr = w) ∧ Hid (∀ j, j < k → ¬ 8 < (ls.getD j []).length)) (fun i _ => ls.length - (intOf i).toNat)
  case atStart => exact ⟨0, Nat.zero_le _, rfl, hid rfl, fun j hj => absurd hj (Nat.not_lt_zero _)⟩
  case round =>
    obtain ⟨k, hk, rfl, HW, HA⟩ := hrel
    by_cases hlt : k < ls.length
    · have hltz : (k : Int) < (ls.length : Int) := by omega
      obtain ⟨b, o, la, lc, rfl, hc, hr⟩ := HT.out.at hlt
      rw [← HW.out] at hc
      have HNO := hid HA.out
      have HY := hid (fun h => @tooM_yes ls k hlt h)
      obtain ⟨n, hn0⟩ : ∃ n, (ls.getD k []).length = n := ⟨_, rfl⟩
      have HEQ := hid hn0
      rw [hn0] at hc HY
      clear hn0
      clear hr
      have HC := hid (tooMany1O_calls la n lc wr)
      by_cases h8 : 8 < n
      · have HT8 := hid (HY.out h8)
        rw [decide_eq_true h8] at HC
        clear h8
        go_wp2_with fail
        refine HC.out.mono ?_
        rintro e w' ⟨rfl, rfl⟩
        clear HC
        go_wp2
        go_ret
        exact ⟨(k : Int), rfl, by rw [HT8.out]; exact decide_eq_true (by omega), HW.out⟩
      · have HN : Hid (∀ j, j < k + 1 → ¬ 8 < (ls.getD j []).length) := fun j hj => by
          by_cases e : j = k
          · rw [e, HEQ.out]; exact h8
          · exact HNO.out j (by omega)
        rw [decide_eq_false h8] at HC
        clear h8 HA HNO
        go_wp2_with fail
        refine HC.out.mono ?_
        rintro e w' ⟨rfl, rfl⟩
        clear HC
        go_wp2
        go_roundw
        case rel => exact ⟨k + 1, by omega, by go_num, HW, HN⟩
        case measure => simp [intOf]; omega
    · have hltz : ¬ (k : Int) < (ls.length : Int) := by omega
      have HNO := hid (tooM_no (fun j hj => HA.out j (by omega)))
      clear HA
      go_wp2
      go_ret
      exact ⟨-1, rfl, by rw [HNO.out]; rfl, HW.out⟩
set_option maxHeartbeats 1000000 in
theorem containsO_calls (ls : List (List (List Int))) (ta : Option Addr) (tc : Nat) (w : World) (hn : ls.length ≤ 1000) (ht : TksN w ta ls) :
    Calls Tryz.prog 124 #[.slice ta ls.length tc, .func (.func 125) #[] #[]] w fun e w' => e = .returned (.bool (tooM ls)) ∧ w' = w := by
  have HC := hid (indexO_calls ls ta tc w hn ht)
  clear ht
  go_enter Tryz.func124, Tryz.ntmps124
  go_wp2_with fail
  refine HC.out.mono ?_
  rintro e w' ⟨r, rfl, hr, rfl⟩
  have HR := hid hr
  clear HC hr
  go_wp2
  go_ret
  exact ⟨by rw [← HR.out]; rfl, rfl⟩
set_option maxHeartbeats 1000000 in
theorem tooManyO_calls (ls : List (List (List Int))) (ta : Option Addr) (tc : Nat) (left : Int) (w : World) (hn : ls.length ≤ 1000) (ht : TksN w ta ls) :
    Calls Tryz.prog 89 #[.slice ta ls.length tc, .int .i64 left] w fun e w' => e = .returned (.bool (decide (left < (ls.length : Int)) || tooM ls)) ∧ w' = w := by
  by_cases h : left < (ls.length : Int)
  · rw [decide_eq_true h, Bool.true_or]
    go_enter Tryz.func89, Tryz.ntmps89
    go_wp2
    go_ret
    exact ⟨rfl, rfl⟩
  · rw [decide_eq_false h, Bool.false_or]
    have HC := hid (containsO_calls ls ta tc w hn ht)
    clear ht
    go_enter Tryz.func89, Tryz.ntmps89
    go_wp2_with fail
    refine HC.out.mono ?_
    rintro e w' ⟨rfl, rfl⟩
    clear HC
    go_wp2
    go_ret
    exact ⟨rfl, rfl⟩
theorem ord_cells {w : World} {b : Nat} {u : List Int} {t : TypeId} (h : w.heap[b]? = some (.cells (ordC u) t)) : ∀ j, j < 6 → w.cell? ⟨b, j, none⟩ = some (.int .i64 (fld u j)) := fun j hj => by
  rw [cell_of_row w b j _ _ _ h]
  match j, hj with
  | 0, _ => rfl
  | 1, _ => rfl
  | 2, _ => rfl
  | 3, _ => rfl
  | 4, _ => rfl
  | 5, _ => rfl
set_option maxRecDepth 100000 in
set_option maxHeartbeats 2000000 in
theorem ordNumbers_calls (u : List Int) (w : World) : Calls Tryz.prog 49 #[ordV u] w (RowP 6 u w) := by
  have hb : Below w.heap.size w ((w.alloc (.cells (ordC u) 102)).alloc (.cells (ordC u) 3)) := ((Below.refl _ w).alloc (Nat.le_refl _) _).alloc (by simp [go_sem]) _
  have hs : (w.alloc (.cells (ordC u) 102)).heap.size = w.heap.size + 1 := by simp [go_sem]
  have hh : ((w.alloc (.cells (ordC u) 102)).alloc (.cells (ordC u) 3)).heap[w.heap.size + 1]? = some (.cells (ordC u) 3) := by
    rw [← hs]
    exact heap_alloc_new _ _
  have HB := hid hb
  have HH := hid hh
  clear hb hh hs
  go_enter Tryz.func49, Tryz.ntmps49
  go_wp2
  go_ret
  exact ⟨w.heap.size + 1, rfl, ord_cells HH.out, HB.out⟩
set_option maxRecDepth 100000 in
set_option maxHeartbeats 4000000 in
theorem checkTicksO_calls (ls : List (List (List Int))) (ta : Option Addr) (tc : Nat) (t : Int) (w : World) (h0 : 0 ≤ t ∧ t ≤ 60) (hn : ls.length ≤ 1000) (ht : TksN w ta ls) :
    Calls Tryz.prog 48 #[.slice ta ls.length tc, .int .i64 t, .func (.func 49) #[] #[]] w fun e w' => e = .returned (errV (ckL 6 t ls)) ∧ Below w.heap.size w w' := by
  have eg : ∀ args w, (callFunc 49 args).run Tryz.prog w = .ok (.enter 49 args) w := enters_of Tryz.func49 (by kernel_rfl) rfl
  have hw : IntKind.i64.wrap (60 - t) = 60 - t := IntWalk.i64_in _ ⟨by omega, by omega⟩
  have HC := hid (tooManyO_calls ls ta tc (60 - t) w hn ht)
  have HT := hid ht
  clear ht
  cases hm : (decide (60 - t < (ls.length : Int)) || tooM ls) with
  | true =>
    have HE : Hid (ckL 6 t ls = 2) := by show _ = _; unfold ckL; rw [if_pos hm]
    rw [hm] at HC
    rw [HE.out]
    show Calls _ _ _ _ fun e w' => e = .returned (.iface 86 (.int .i64 2)) ∧ Below w.heap.size w w'
    clear hm HE
    go_enter Tryz.func48, Tryz.ntmps48
    go_wp2_with fail
    refine HC.out.mono ?_
    rintro e w' ⟨rfl, rfl⟩
    clear HC
    go_wp2
    go_ret
    exact ⟨rfl, Below.refl _ _⟩
  | false =>
    have HE : Hid (ckL 6 t ls = if negB 6 ls = true then 1 else 0) := by show _ = _; unfold ckL; rw [hm]; rfl
    have h8 : ∀ j, j < ls.length → (ls.getD j []).length ≤ 8 := fun j hj => by
      rw [Bool.or_eq_false_iff] at hm
      exact Classical.byContradiction fun h => by
        have := tooM_yes hj (by omega)
        rw [hm.2] at this
        cases this
    have H8 := hid h8
    rw [hm] at HC
    clear hm h8
    go_enter Tryz.func48, Tryz.ntmps48
    go_wp2_with fail
    refine HC.out.mono ?_
    rintro e w' ⟨rfl, rfl⟩
    clear HC
    go_wp2
    go_loopw [18] (fun i wr => ∃ k : Nat, k ≤ ls.length ∧ i = .int .i64 k ∧ Hid (Below w'.heap.size w' wr) ∧ Hid (∀ j, j < k → ∀ i, i < (ls.getD j []).length → negU 6 (rec (ls.getD j []) i) = false)) (fun i _ => ls.length - (intOf i).toNat)
    case atStart => exact ⟨0, Nat.zero_le _, rfl, Below.refl _ _, fun j hj => absurd hj (Nat.not_lt_zero _)⟩
    case round =>
      obtain ⟨k, hk, rfl, HB, HA⟩ := hrel
      by_cases hlt : k < ls.length
      · have hltz : (k : Int) < (ls.length : Int) := by omega
        obtain ⟨b, o, la, lc, rfl, hc, hr⟩ := (HT.out.below HB.out).at hlt
        have hl8 := H8.out k hlt
        have HYES := hid (fun i hi h => @negB_yes 6 ls k i hlt hi h)
        have HNX : Hid ((∀ i, i < (ls.getD k []).length → negU 6 (rec (ls.getD k []) i) = false) → ∀ j, j < k + 1 → ∀ i, i < (ls.getD j []).length → negU 6 (rec (ls.getD j []) i) = false) := fun h j hj => by
          by_cases e : j = k
          · rw [e]; exact h
          · exact HA.out j (by omega)
        have HR := hid hr
        generalize ls.getD k [] = l at hc HR hl8 HYES HNX
        clear hr HA
        go_wp2
        clear hc
        go_loopw [24] (fun i wr => ∃ n : Nat, n ≤ l.length ∧ i = .int .i64 n ∧ Hid (Below w'.heap.size w' wr) ∧ Hid (Recs wr la 6 l) ∧ Hid (∀ j, j < n → negU 6 (rec l j) = false)) (fun i _ => l.length - (intOf i).toNat)
        case atStart => exact ⟨0, Nat.zero_le _, rfl, HB, HR, fun j hj => absurd hj (Nat.not_lt_zero _)⟩
        case round =>
          clear HB HR
          obtain ⟨n, hnl, rfl, HB, HR, HA⟩ := hrel
          by_cases hn2 : n < l.length
          · have hnz : (n : Int) < (l.length : Int) := by omega
            obtain ⟨b2, o2, rfl, hcs⟩ := HR.out.at hn2
            have l0 : wr.cell? ⟨b2, o2 + n * 6, none⟩ = some (.int .i64 (fld (rec l n) 0)) := hcs 0 (by omega)
            have l1 := hcs 1 (by omega)
            have l2 := hcs 2 (by omega)
            have l3 := hcs 3 (by omega)
            have l4 := hcs 4 (by omega)
            have l5 := hcs 5 (by omega)
            have HY := hid (HYES.out n hn2)
            have HN1 : Hid (negU 6 (rec l n) = false → ∀ j, j < n + 1 → negU 6 (rec l j) = false) := fun h j hj => by
              by_cases e : j = n
              · rw [e]; exact h
              · exact HA.out j (by omega)
            generalize rec l n = q at l0 l1 l2 l3 l4 l5 HY HN1
            clear hcs HA
            have hbx : Below wr.heap.size wr (wr.alloc (.cells (ordC q) 102)) := (Below.refl _ _).alloc (Nat.le_refl _) _
            have HBX := hid hbx
            clear hbx
            go_wp2_with fail
            refine (ordNumbers_calls q _).mono ?_
            rintro e w3 ⟨g, rfl, hg, hb3⟩
            have HB3 : Hid (Below wr.heap.size wr w3) := HBX.out.trans (hb3.mono HBX.out.size)
            have HG := hid hg
            clear hb3 hg HBX l0 l1 l2 l3 l4 l5
            have HMC := hid (min_calls 6 (by omega) (by omega) q g w3 HG.out)
            go_wp2_with fail
            refine HMC.out.mono ?_
            rintro e w4 ⟨m, rfl, hm, rfl⟩
            clear HMC HG
            have HB4 : Hid (Below w'.heap.size w' w4) := HB.out.trans (HB3.out.mono HB.out.size)
            have HR4 := hid (HR.out.below HB3.out)
            by_cases hm0 : m < 0
            · rw [decide_eq_true hm0] at hm
              have HZ : Hid (ckL 6 t ls = 1) := by
                show _ = _
                rw [HE.out, HY.out hm.symm]
                rfl
              clear hm HE HY HN1
              go_wp2
              go_ret
              exact ⟨by rw [HZ.out]; rfl, HB4.out⟩
            · rw [decide_eq_false hm0] at hm
              have HN2 := hid (HN1.out hm.symm)
              clear hm HY HN1 HB HR
              go_wp2
              go_roundw
              case rel => exact ⟨n + 1, by omega, by go_num, HB4, HR4, HN2⟩
              case measure => simp [intOf]; omega
          · have hnz : ¬ (n : Int) < (l.length : Int) := by omega
            have HN := hid (HNX.out (fun i hi => HA.out i (by omega)))
            clear HA HNX
            go_wp2
            go_roundw
            case rel => exact ⟨k + 1, by omega, by go_num, HB, HN⟩
            case measure => simp [intOf]; omega
      · have hltz : ¬ (k : Int) < (ls.length : Int) := by omega
        have HZ : Hid (ckL 6 t ls = 0) := by
          show _ = _
          rw [HE.out, negB_no (fun j hj i hi => HA.out j (by omega) i hi)]
          rfl
        clear HA HE
        go_wp2
        go_ret
        exact ⟨by rw [HZ.out]; rfl, HB.out⟩
end Go.Proofs.YtcbalhicaipmlaaGreat
namespace Go.Proofs.YtcbalhicaipmlaaGreat
open Go.RowKit Go.Maps
def RowO (base : Nat) (w : World) (v : Value) (us : List (List Int)) : Prop := w.ownsRow base 102 6 v us.length (flat 6 us)
theorem RowO.open {base : Nat} {w : World} {v : Value} {us : List (List Int)} (h : RowO base w v us) : ∃ ea c, v = .slice ea us.length c ∧ us.length ≤ c ∧ Recs w ea 6 us ∧ (0 < us.length → ∃ g, ea = some ⟨g, 0, none⟩ ∧ base ≤ g ∧ g < w.heap.size) := by
  have h' := h
  rcases h.2 with ⟨rfl, h0⟩ | ⟨g, cap, cur, rfl, hb, hg, hn, hm, hs, ht⟩
  · refine ⟨none, 0, by rw [h0], by omega, Or.inl (List.eq_nil_of_length_eq_zero h0), fun h => by omega⟩
  · refine ⟨some ⟨g, 0, none⟩, cap, rfl, hn, Or.inr ⟨g, 0, rfl, fun i hi j hj => ?_⟩, fun _ => ⟨g, rfl, hb, (Array.getElem?_eq_some_iff.1 hg).1⟩⟩
    have hlt : i * 6 + j < us.length * 6 := by omega
    rw [Nat.zero_add, World.ownsRow.cellAt h' _ hlt, flat_get hj, if_pos hi]
abbrev zeroOrd : Value := .agg #[.int .i64 0, .int .i64 0, .int .i64 0, .int .i64 0, .int .i64 0, .int .i64 0]
theorem info_ord : (Tryz.prog.info? 102).map (fun i => (i.zero, i.size, i.bytes)) = some (some zeroOrd, 6, 48) := by kernel_rfl
theorem flatO_src {w : World} {b o : Nat} {xs : List (List Int)} (h : ∀ i, i < xs.length → ∀ j, j < 6 → w.cell? ⟨b, o + i * 6 + j, none⟩ = some (.int .i64 (fld (rec xs i) j))) : ∀ j u, (flat 6 xs)[j]? = some u → w.cell? ((⟨b, o, none⟩ : Addr).add j) = some u := by
  intro m u hm
  have e : m = (m / 6) * 6 + m % 6 := by omega
  have hr : m % 6 < 6 := Nat.mod_lt _ (by omega)
  generalize m / 6 = q at e
  generalize m % 6 = r at e hr
  subst e
  rw [flat_get hr] at hm
  split at hm
  next hq =>
    rw [add_off, ← Nat.add_assoc, h q hq r hr]
    exact hm
  · cases hm
theorem rowRunO (w : World) (base : Nat) (ty : TypeId) (v : Value) (es : List (List Int)) (hown : RowO base w v es) (xa : Option Addr) (xc : Nat) (xs : List (List Int)) (hx : Recs w xa 6 xs) (hnil : xa = none → xc = 0)
    (hlen : es.length + xs.length ≤ 100000) (hbase : base ≤ w.heap.size) :
    ∃ v' w', (Builtin.append_ #[78, 78] ty #[v, .slice xa xs.length xc]).run Tryz.prog w = .ok v' w' ∧ RowO base w' v' (es ++ xs) ∧ w.grownBy w' v.ownBlock ∧ (v'.ownBlock = v.ownBlock ∨ v'.ownBlock = some w.heap.size) := by
  obtain ⟨i0, hi, hz0, hz1, hz2⟩ := info_parts info_ord
  rcases xa with _ | ad
  · have hx0 : xs = [] := by
      rcases hx with h | ⟨b, o, h, _⟩
      · exact h
      · cases h
    subst hx0
    rw [hnil rfl]
    have hrun := run_append_owned_none (P := Tryz.prog) (w := w) base 78 ty 102 i0 6 Tryz.underlying78 hi v _ _ hown
    refine ⟨v, w, hrun, by rw [List.append_nil]; exact hown, ⟨rfl, rfl, rfl, Nat.le_refl _, fun _ _ _ => rfl⟩, Or.inl rfl⟩
  · have hsrc : ∀ j u, (flat 6 xs)[j]? = some u → w.cell? (ad.add j) = some u := by
      rcases hx with h | ⟨b', o', h, hc⟩
      · subst h
        intro j u hj
        simp [flat] at hj
      · cases h
        exact flatO_src hc
    obtain ⟨v', w', hr, h2, h3, h4, h5⟩ := run_append_own_at (P := Tryz.prog) w base 78 ty 102 i0 zeroOrd 6 48 Tryz.underlying78 hi hz0 hz1 hz2 rfl (by decide) v _ _ hown ad xs.length xc (flat 6 xs) (flat_length 6 xs) hsrc (flat_one xs 6) (by unfold maxLen; omega) (by omega) hbase
    refine ⟨v', w', hr, ?_, h3, h5⟩
    unfold RowO
    rw [List.length_append, flat_append]
    exact h2
theorem wp_rowsO {ops : Array Oper} {rest : List Oper} {o : Oper} {a : Act} {Q : Exit → Act → World → Prop} (w : World) (hgd : o.guard = none) (s x : Operand)
    (ho : o.op = .call { callee := .builtin .append, args := #[s, x], argTypes := #[78, 78] }) (base : Nat) (v : Value) (es : List (List Int)) (hs : a.eval s = v) (hown : RowO base w v es)
    (xa : Option Addr) (xc : Nat) (xs : List (List Int)) (hxe : a.eval x = .slice xa xs.length xc) (hx : Recs w xa 6 xs) (hnil : xa = none → xc = 0) (hlen : es.length + xs.length ≤ 100000) (hbase : base ≤ w.heap.size)
    (h : ∀ v' w', RowO base w' v' (es ++ xs) → w.grownBy w' v.ownBlock → (v'.ownBlock = v.ownBlock ∨ v'.ownBlock = some w.heap.size) → wpList Tryz.prog ops Q rest (a.put o.dst v') w') : wpList Tryz.prog ops Q (o :: rest) a w := by
  refine wpList_plain hgd fun K hK => ?_
  obtain ⟨v', w', hr, h2, h3, h4⟩ := rowRunO w base o.type v es hown xa xc xs hx hnil hlen hbase
  unfold Oper.wp execOp
  simp only [ho, resolve, invoke, builtin, Sem.run_bind, Sem.run_pure, Result.andThen_ok, List.map_toArray, List.map_cons, List.map_nil, hs, hxe, hr]
  exact hK _ _ (h v' w' h2 h3 h4)
theorem recs_oneO (w : World) (u : List Int) (t : TypeId) : Recs (w.alloc (.cells (ordC u) t)) (some ⟨w.heap.size, 0, none⟩) 6 [u] := by
  refine Or.inr ⟨w.heap.size, 0, rfl, fun i hi j hj => ?_⟩
  have h0 : i = 0 := by simpa using hi
  subst h0
  rw [cell_of_row _ _ (0 + 0 * 6 + j) _ _ _ (heap_alloc_new w _)]
  have e : 0 + 0 * 6 + j = j := by omega
  rw [e]
  show (ordC u)[j]? = some (.int .i64 (fld u j))
  match j, hj with
  | 0, _ | 1, _ | 2, _ | 3, _ | 4, _ | 5, _ => rfl
end Go.Proofs.YtcbalhicaipmlaaGreat
namespace Go.Proofs.YtcbalhicaipmlaaGreat
open Go.RowKit Go.Maps
theorem Gr.newN (w : World) (t g0 g1 nx : Int) (base : Nat) (hb : base ≤ w.heap.size) : Gr base (w.alloc (.cells (refC true (st0 t g0 g1 nx [] []) nilV nilV nilV) 136)) w.heap.size nilV nilV nilV true (st0 t g0 g1 nx [] []) :=
  ⟨heap_alloc_new w _, World.ownsRow_nil _ _ _ _, World.ownsRow_nil _ _ _ _, World.ownsRow_nil _ _ _ _, hb, Or.inl rfl⟩
set_option maxRecDepth 100000 in
set_option maxHeartbeats 8000000 in
theorem ofNewer_calls (t g0 g1 nx : Int) (ua : Option Addr) (uc : Nat) (us : List (List Int)) (w : World) (hnu : us.length ≤ 1000) (hrow : Recs w ua 11 us) (hun : ua = none → uc = 0) :
    Calls Tryz.prog 46 #[newerV t g0 g1 nx (.slice ua us.length uc)] w fun e w' => ∃ p, e = .returned (.pointer (some ⟨p, 0, none⟩)) ∧ GrE w.heap.size w' p true (st0 t g0 g1 nx [] us) ∧ Below w.heap.size w w' := by
  obtain ⟨W, hW⟩ : ∃ W, (w.alloc (.cells (newerC t g0 g1 nx (.slice ua us.length uc)) 32)).alloc (.cells #[.bool true, .int .i64 t, .int .i64 g0, .int .i64 g1, .int .i64 nx, .slice none 0 0, .slice none 0 0, .slice none 0 0] 136) = W := ⟨_, rfl⟩
  have hbW : Below w.heap.size w W := by
    rw [← hW]
    exact ((Below.refl _ w).alloc (Nat.le_refl _) _).alloc (by simp [go_sem]) _
  have hsW : W.heap.size = w.heap.size + 2 := by rw [← hW]; simp [go_sem]
  have HGW : Hid (Gr w.heap.size W (w.heap.size + 1) nilV nilV nilV true (st0 t g0 g1 nx [] [])) := by
    have h := Gr.newN (w.alloc (.cells (newerC t g0 g1 nx (.slice ua us.length uc)) 32)) t g0 g1 nx w.heap.size (by simp [go_sem])
    have hW' : (w.alloc (.cells (newerC t g0 g1 nx (.slice ua us.length uc)) 32)).alloc (.cells (refC true (st0 t g0 g1 nx [] []) nilV nilV nilV) 136) = W := hW
    rw [hW'] at h
    have e : (w.alloc (.cells (newerC t g0 g1 nx (.slice ua us.length uc)) 32)).heap.size = w.heap.size + 1 := by simp [go_sem]
    rw [e] at h
    exact h
  have hbx : W.heap[w.heap.size]? = some (.cells (newerC t g0 g1 nx (.slice ua us.length uc)) 32) := by
    rw [← hW, heap_alloc_old _ _ (by simp [go_sem])]
    exact heap_alloc_new w _
  have b4 : W.cell? ⟨w.heap.size, 4, none⟩ = some (.slice ua us.length uc) := cell_of_row W _ 4 _ _ _ hbx
  have g6 : W.cell? ⟨w.heap.size + 1, 6, none⟩ = some nilV := HGW.out.cell 6
  have gf6 : W.frozen? ⟨w.heap.size + 1, 6, none⟩ = false := HGW.out.frozen 6
  have HRW := hid (hrow.below hbW)
  have HBW := hid hbW
  have HUN := hid hun
  clear hrow hbx hbW hun
  go_enter Tryz.func46, Tryz.ntmps46
  go_wp2_with fail
  go_region_law (refine step_rowsU rfl (.tmp 16) (.tmp 18) rfl w.heap.size nilV [] (by simp [Act.eval]) (World.ownsRow_nil _ _ _ _) ua uc us (by simp [Act.eval]) HRW.out HUN.out (by show 0 + us.length ≤ 100000; omega) (by simp [go_sem]; omega) ?_
                 intro v' w' hr hg hl
                 rw [List.nil_append] at hr
                 have hr' := hr
                 obtain ⟨va, vc, rfl, _, _, _⟩ := hr'.open
                 have hb' : Below W.heap.size W w' := (Below.refl _ W).grown ⟨hg.os, hg.tape, hg.output, hg.size, hg.block⟩ (Nat.le_refl _) (fun k hk => by cases hk)
                 have d6 : w'.cell? ⟨w.heap.size + 1, 6, none⟩ = some nilV := (HGW.out.below hb').cell 6
                 have f6 : w'.frozen? ⟨w.heap.size + 1, 6, none⟩ = false := (HGW.out.below hb').frozen 6
                 have HR' := hid hr
                 have HB' := hid hb'
                 have HG' : Hid (W.grownBy w' nilV.ownBlock) := ⟨hg.os, hg.tape, hg.output, hg.size, hg.block⟩
                 clear hr hr' hg hl hb')
  all_goals
    go_wp2
    go_ret
    exact ⟨_, rfl, ⟨_, _, _, Gr.grewU HGW.out HR'.out HG'.out⟩, (HBW.out.trans (HB'.out.mono (by rw [hsW]; omega))).setCell (p := ⟨w.heap.size + 1, 6, none⟩) (Nat.le_succ _) _⟩
end Go.Proofs.YtcbalhicaipmlaaGreat
namespace Go.Proofs.YtcbalhicaipmlaaGreat
open Go.RowKit Go.Maps
theorem st0_N {s : St} (hf : s.free = []) (hb : s.born = []) : st0 s.t s.g0 s.g1 s.nx [] s.es = s := by
  cases s
  simp only at hf hb
  subst hf hb
  rfl
end Go.Proofs.YtcbalhicaipmlaaGreat
