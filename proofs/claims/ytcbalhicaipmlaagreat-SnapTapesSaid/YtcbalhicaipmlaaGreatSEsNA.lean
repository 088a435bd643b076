/- NewerSays: rows of orders that grow. -/
import Derived.BigQuiet
import Derived.Test.YtcbalhicaipmlaaGreatSNwK
import Derived.Test.YtcbalhicaipmlaaGreatSEsRA
import Derived.Test.YtcbalhicaipmlaaGreatSRefQ
import Derived.Test.YtcbalhicaipmlaaGreatSSnB
import Derived.Test.YtcbalhicaipmlaaGreatSNwF
import Derived.Test.YtcbalhicaipmlaaGreatSRefO
namespace Go.Proofs.YtcbalhicaipmlaaGreat
open Go.RowKit Go.Maps
def RowO (base : Nat) (w : World) (v : Value) (us : List (List Int)) : Prop := w.ownsRow base 102 6 v us.length (flat 6 us)
theorem RowO.open {base : Nat} {w : World} {v : Value} {us : List (List Int)} (h : RowO base w v us) : ∃ ea c, v = .slice ea us.length c ∧ us.length ≤ c ∧ Recs w ea 6 us ∧ (0 < us.length → ∃ g, ea = some ⟨g, 0, none⟩ ∧ base ≤ g ∧ g < w.heap.size) := by
  have h' := h
  rcases h.2 with ⟨rfl, h0⟩ | ⟨g, cap, cur, rfl, hb, hg, hn, hm, hs, ht⟩
  · refine ⟨none, 0, by rw [h0], by omega, Or.inl (List.eq_nil_of_length_eq_zero h0), fun h => by omega⟩
  · refine ⟨some ⟨g, 0, none⟩, cap, rfl, hn, Or.inr ⟨g, 0, rfl, fun i hi j hj => ?_⟩, fun _ => ⟨g, rfl, hb, (Array.getElem?_eq_some_iff.1 hg).1⟩⟩
    have hlt : i * 6 + j < us.length * 6 := by omega
    rw [Nat.zero_add, World.ownsRow.cellAt h' _ hlt, flat_get hj, if_pos hi]
abbrev zeroOrd : Value := .agg #[.int .i64 0, .int .i64 0, .int .i64 0, .int .i64 0, .int .i64 0, .int .i64 0]
theorem info_ord : (Tryz.prog.info? 102).map (fun i => (i.zero, i.size, i.bytes)) = some (some zeroOrd, 6, 48) := by kernel_rfl
theorem flatO_src {w : World} {b o : Nat} {xs : List (List Int)} (h : ∀ i, i < xs.length → ∀ j, j < 6 → w.cell? ⟨b, o + i * 6 + j, none⟩ = some (.int .i64 (fld (rec xs i) j))) : ∀ j u, (flat 6 xs)[j]? = some u → w.cell? ((⟨b, o, none⟩ : Addr).add j) = some u := by
  intro m u hm
  have e : m = (m / 6) * 6 + m % 6 := by omega
  have hr : m % 6 < 6 := Nat.mod_lt _ (by omega)
  generalize m / 6 = q at e
  generalize m % 6 = r at e hr
  subst e
  rw [flat_get hr] at hm
  split at hm
  next hq =>
    rw [add_off, ← Nat.add_assoc, h q hq r hr]
    exact hm
  · cases hm
theorem rowRunO (w : World) (base : Nat) (ty : TypeId) (v : Value) (es : List (List Int)) (hown : RowO base w v es) (xa : Option Addr) (xc : Nat) (xs : List (List Int)) (hx : Recs w xa 6 xs) (hnil : xa = none → xc = 0)
    (hlen : es.length + xs.length ≤ 100000) (hbase : base ≤ w.heap.size) :
    ∃ v' w', (Builtin.append_ #[78, 78] ty #[v, .slice xa xs.length xc]).run Tryz.prog w = .ok v' w' ∧ RowO base w' v' (es ++ xs) ∧ w.grownBy w' v.ownBlock ∧ (v'.ownBlock = v.ownBlock ∨ v'.ownBlock = some w.heap.size) := by
  obtain ⟨i0, hi, hz0, hz1, hz2⟩ := info_parts info_ord
  rcases xa with _ | ad
  · have hx0 : xs = [] := by
      rcases hx with h | ⟨b, o, h, _⟩
      · exact h
      · cases h
    subst hx0
    rw [hnil rfl]
    have hrun := run_append_owned_none (P := Tryz.prog) (w := w) base 78 ty 102 i0 6 Tryz.underlying78 hi v _ _ hown
    refine ⟨v, w, hrun, by rw [List.append_nil]; exact hown, ⟨rfl, rfl, rfl, Nat.le_refl _, fun _ _ _ => rfl⟩, Or.inl rfl⟩
  · have hsrc : ∀ j u, (flat 6 xs)[j]? = some u → w.cell? (ad.add j) = some u := by
      rcases hx with h | ⟨b', o', h, hc⟩
      · subst h
        intro j u hj
        simp [flat] at hj
      · cases h
        exact flatO_src hc
    obtain ⟨v', w', hr, h2, h3, h4, h5⟩ := run_append_own_at (P := Tryz.prog) w base 78 ty 102 i0 zeroOrd 6 48 Tryz.underlying78 hi hz0 hz1 hz2 rfl (by decide) v _ _ hown ad xs.length xc (flat 6 xs) (flat_length 6 xs) hsrc (flat_one xs 6) (by unfold maxLen; omega) (by omega) hbase
    refine ⟨v', w', hr, ?_, h3, h5⟩
    unfold RowO
    rw [List.length_append, flat_append]
    exact h2
theorem wp_rowsO {ops : Array Oper} {rest : List Oper} {o : Oper} {a : Act} {Q : Exit → Act → World → Prop} (w : World) (hgd : o.guard = none) (s x : Operand)
    (ho : o.op = .call { callee := .builtin .append, args := #[s, x], argTypes := #[78, 78] }) (base : Nat) (v : Value) (es : List (List Int)) (hs : a.eval s = v) (hown : RowO base w v es)
    (xa : Option Addr) (xc : Nat) (xs : List (List Int)) (hxe : a.eval x = .slice xa xs.length xc) (hx : Recs w xa 6 xs) (hnil : xa = none → xc = 0) (hlen : es.length + xs.length ≤ 100000) (hbase : base ≤ w.heap.size)
    (h : ∀ v' w', RowO base w' v' (es ++ xs) → w.grownBy w' v.ownBlock → (v'.ownBlock = v.ownBlock ∨ v'.ownBlock = some w.heap.size) → wpList Tryz.prog ops Q rest (a.put o.dst v') w') : wpList Tryz.prog ops Q (o :: rest) a w := by
  refine wpList_plain hgd fun K hK => ?_
  obtain ⟨v', w', hr, h2, h3, h4⟩ := rowRunO w base o.type v es hown xa xc xs hx hnil hlen hbase
  unfold Oper.wp execOp
  simp only [ho, resolve, invoke, builtin, Sem.run_bind, Sem.run_pure, Result.andThen_ok, List.map_toArray, List.map_cons, List.map_nil, hs, hxe, hr]
  exact hK _ _ (h v' w' h2 h3 h4)
theorem recs_oneO (w : World) (u : List Int) (t : TypeId) : Recs (w.alloc (.cells (ordC u) t)) (some ⟨w.heap.size, 0, none⟩) 6 [u] := by
  refine Or.inr ⟨w.heap.size, 0, rfl, fun i hi j hj => ?_⟩
  have h0 : i = 0 := by simpa using hi
  subst h0
  rw [cell_of_row _ _ (0 + 0 * 6 + j) _ _ _ (heap_alloc_new w _)]
  have e : 0 + 0 * 6 + j = j := by omega
  rw [e]
  show (ordC u)[j]? = some (.int .i64 (fld u j))
  match j, hj with
  | 0, _ | 1, _ | 2, _ | 3, _ | 4, _ | 5, _ => rfl
end Go.Proofs.YtcbalhicaipmlaaGreat
namespace Go.Proofs.YtcbalhicaipmlaaGreat
open Go.RowKit Go.Maps
def LightA (s : St) (ls : List (List (List Int))) (w : World) (e : Ending) (w' : World) : Prop := ∃ b, e = .returned (.bool b) ∧ (b = true → ls.length ≤ 70 ∧ s.es.length ≤ 25) ∧ Below w.heap.size w w'
set_option maxRecDepth 100000 in
set_option maxHeartbeats 4000000 in
theorem lightReel_calls (s : St) (ua ta : Option Addr) (uc tc : Nat) (ls : List (List (List Int))) (w : World) (ht : TksN w ta ls) :
    Calls Tryz.prog 7 #[reelV s.t s.g0 s.g1 s.nx (.slice ua s.es.length uc) (.slice ta ls.length tc)] w (LightA s ls w) := by
  obtain ⟨W, hW⟩ : ∃ W, w.alloc (.cells (reelC s.t s.g0 s.g1 s.nx (.slice ua s.es.length uc) (.slice ta ls.length tc)) 35) = W := ⟨_, rfl⟩
  have hbW : Below w.heap.size w W := by rw [← hW]; exact (Below.refl _ w).alloc (Nat.le_refl _) _
  have hh0 : W.heap[w.heap.size]? = some (.cells (reelC s.t s.g0 s.g1 s.nx (.slice ua s.es.length uc) (.slice ta ls.length tc)) 35) := by rw [← hW]; exact heap_alloc_new _ _
  obtain ⟨x0, x1, x2, x3, x4, x5⟩ := reel_cells hh0
  have HT := hid (ht.below hbW)
  have HBW := hid hbW
  clear ht hbW hh0
  by_cases h70 : ls.length ≤ 70
  case neg =>
    have hz : (70 : Int) < (ls.length : Int) := by omega
    go_enter Tryz.func7, Tryz.ntmps7
    go_wp2
    go_ret
    exact ⟨false, rfl, (fun h => by cases h), HBW.out⟩
  case pos =>
    have hz : ¬ (70 : Int) < (ls.length : Int) := by omega
    go_enter Tryz.func7, Tryz.ntmps7
    go_wp2_with fail
    go_loopw [3] (fun i wr => ∃ k : Nat, k ≤ ls.length ∧ i = .int .i64 k ∧ wr = W) (fun i _ => ls.length - (intOf i).toNat)
    case atStart => exact ⟨0, Nat.zero_le _, rfl, rfl⟩
    case round =>
      obtain ⟨k, hk, rfl, rfl⟩ := hrel
      by_cases hkl : k < ls.length
      · have hkz : (k : Int) < (ls.length : Int) := by omega
        obtain ⟨b, o, la, lc, rfl, hcell, _⟩ := HT.out.at hkl
        generalize ls.getD k [] = l at hcell
        by_cases h12 : l.length ≤ 12
        · have h12z : ¬ (12 : Int) < (l.length : Int) := by omega
          go_wp2
          go_roundw
          case rel => exact ⟨k + 1, by omega, by go_num, trivial⟩
          case measure => simp [intOf]; omega
        · have h12z : (12 : Int) < (l.length : Int) := by omega
          go_wp2
          go_ret
          exact ⟨false, rfl, (fun h => by cases h), HBW.out⟩
      · have hkz : ¬ (k : Int) < (ls.length : Int) := by omega
        by_cases h25 : s.es.length ≤ 25
        · have h25z : (s.es.length : Int) ≤ 25 := by omega
          go_wp2
          go_ret
          exact ⟨true, rfl, (fun _ => ⟨h70, h25⟩), HBW.out⟩
        · have h25z : ¬ (s.es.length : Int) ≤ 25 := by omega
          go_wp2
          go_ret
          exact ⟨false, rfl, (fun h => by cases h), HBW.out⟩
end Go.Proofs.YtcbalhicaipmlaaGreat
namespace Go.Proofs.YtcbalhicaipmlaaGreat
open Go.RowKit Go.Maps
theorem Gr.newN (w : World) (t g0 g1 nx : Int) (base : Nat) (hb : base ≤ w.heap.size) : Gr base (w.alloc (.cells (refC true (st0 t g0 g1 nx [] []) nilV nilV nilV) 136)) w.heap.size nilV nilV nilV true (st0 t g0 g1 nx [] []) :=
  ⟨heap_alloc_new w _, World.ownsRow_nil _ _ _ _, World.ownsRow_nil _ _ _ _, World.ownsRow_nil _ _ _ _, hb, Or.inl rfl⟩
set_option maxRecDepth 100000 in
set_option maxHeartbeats 8000000 in
theorem ofNewer_calls (t g0 g1 nx : Int) (ua : Option Addr) (uc : Nat) (us : List (List Int)) (w : World) (hnu : us.length ≤ 1000) (hrow : Recs w ua 11 us) (hun : ua = none → uc = 0) :
    Calls Tryz.prog 46 #[newerV t g0 g1 nx (.slice ua us.length uc)] w fun e w' => ∃ p, e = .returned (.pointer (some ⟨p, 0, none⟩)) ∧ GrE w.heap.size w' p true (st0 t g0 g1 nx [] us) ∧ Below w.heap.size w w' := by
  obtain ⟨W, hW⟩ : ∃ W, (w.alloc (.cells (newerC t g0 g1 nx (.slice ua us.length uc)) 32)).alloc (.cells #[.bool true, .int .i64 t, .int .i64 g0, .int .i64 g1, .int .i64 nx, .slice none 0 0, .slice none 0 0, .slice none 0 0] 136) = W := ⟨_, rfl⟩
  have hbW : Below w.heap.size w W := by
    rw [← hW]
    exact ((Below.refl _ w).alloc (Nat.le_refl _) _).alloc (by simp [go_sem]) _
  have hsW : W.heap.size = w.heap.size + 2 := by rw [← hW]; simp [go_sem]
  have HGW : Hid (Gr w.heap.size W (w.heap.size + 1) nilV nilV nilV true (st0 t g0 g1 nx [] [])) := by
    have h := Gr.newN (w.alloc (.cells (newerC t g0 g1 nx (.slice ua us.length uc)) 32)) t g0 g1 nx w.heap.size (by simp [go_sem])
    have hW' : (w.alloc (.cells (newerC t g0 g1 nx (.slice ua us.length uc)) 32)).alloc (.cells (refC true (st0 t g0 g1 nx [] []) nilV nilV nilV) 136) = W := hW
    rw [hW'] at h
    have e : (w.alloc (.cells (newerC t g0 g1 nx (.slice ua us.length uc)) 32)).heap.size = w.heap.size + 1 := by simp [go_sem]
    rw [e] at h
    exact h
  have hbx : W.heap[w.heap.size]? = some (.cells (newerC t g0 g1 nx (.slice ua us.length uc)) 32) := by
    rw [← hW, heap_alloc_old _ _ (by simp [go_sem])]
    exact heap_alloc_new w _
  have b4 : W.cell? ⟨w.heap.size, 4, none⟩ = some (.slice ua us.length uc) := cell_of_row W _ 4 _ _ _ hbx
  have g6 : W.cell? ⟨w.heap.size + 1, 6, none⟩ = some nilV := HGW.out.cell 6
  have gf6 : W.frozen? ⟨w.heap.size + 1, 6, none⟩ = false := HGW.out.frozen 6
  have HRW := hid (hrow.below hbW)
  have HBW := hid hbW
  have HUN := hid hun
  clear hrow hbx hbW hun
  go_enter Tryz.func46, Tryz.ntmps46
  go_wp2_with fail
  go_region_law (refine step_rowsU rfl (.tmp 16) (.tmp 18) rfl w.heap.size nilV [] (by simp [Act.eval]) (World.ownsRow_nil _ _ _ _) ua uc us (by simp [Act.eval]) HRW.out HUN.out (by show 0 + us.length ≤ 100000; omega) (by simp [go_sem]; omega) ?_
                 intro v' w' hr hg hl
                 rw [List.nil_append] at hr
                 have hr' := hr
                 obtain ⟨va, vc, rfl, _, _, _⟩ := hr'.open
                 have hb' : Below W.heap.size W w' := (Below.refl _ W).grown ⟨hg.os, hg.tape, hg.output, hg.size, hg.block⟩ (Nat.le_refl _) (fun k hk => by cases hk)
                 have d6 : w'.cell? ⟨w.heap.size + 1, 6, none⟩ = some nilV := (HGW.out.below hb').cell 6
                 have f6 : w'.frozen? ⟨w.heap.size + 1, 6, none⟩ = false := (HGW.out.below hb').frozen 6
                 have HR' := hid hr
                 have HB' := hid hb'
                 have HG' : Hid (W.grownBy w' nilV.ownBlock) := ⟨hg.os, hg.tape, hg.output, hg.size, hg.block⟩
                 clear hr hr' hg hl hb')
  all_goals
    go_wp2
    go_ret
    exact ⟨_, rfl, ⟨_, _, _, Gr.grewU HGW.out HR'.out HG'.out⟩, (HBW.out.trans (HB'.out.mono (by rw [hsW]; omega))).setCell (p := ⟨w.heap.size + 1, 6, none⟩) (Nat.le_succ _) _⟩
end Go.Proofs.YtcbalhicaipmlaaGreat
namespace Go.Proofs.YtcbalhicaipmlaaGreat
open Go.RowKit Go.Maps
theorem st0_N {s : St} (hf : s.free = []) (hb : s.born = []) : st0 s.t s.g0 s.g1 s.nx [] s.es = s := by
  cases s
  simp only at hf hb
  subst hf hb
  rfl
end Go.Proofs.YtcbalhicaipmlaaGreat
