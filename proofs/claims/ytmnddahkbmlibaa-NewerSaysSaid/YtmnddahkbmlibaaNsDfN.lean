/- slices.DeleteFunc at units, over a row of one's own. -/
import Derived.Lib.SliceRun
import Derived.Test.YtmnddahkbmlibaaNsRefMA
import Derived.Test.YtmnddahkbmlibaaNsNwI
import Derived.Test.YtmnddahkbmlibaaNsNwO
import Derived.Test.YtmnddahkbmlibaaNsSkN
import Derived.Test.YtmnddahkbmlibaaNsNwR
namespace Go.Proofs.Ytmnddahkbmlibaa
open Go.RowKit Go.Maps
theorem zeroU_cells (n : Nat) : (Builtin.zeroCells zeroUnit.cells n).toList = List.replicate (n * 11) (Value.int .i64 0) := by
  have hz : zeroUnit.cells = #[.int .i64 0, .int .i64 0, .int .i64 0, .int .i64 0, .int .i64 0, .int .i64 0, .int .i64 0, .int .i64 0, .int .i64 0, .int .i64 0, .int .i64 0] := by rfl
  have hg : ∀ r, r < 11 → (#[.int .i64 0, .int .i64 0, .int .i64 0, .int .i64 0, .int .i64 0, .int .i64 0, .int .i64 0, .int .i64 0, .int .i64 0, .int .i64 0, .int .i64 0] : Array Value)[r]! = .int .i64 0 := by
    intro r hr
    match r, hr with
    | 0, _ => rfl
    | 1, _ => rfl
    | 2, _ => rfl
    | 3, _ => rfl
    | 4, _ => rfl
    | 5, _ => rfl
    | 6, _ => rfl
    | 7, _ => rfl
    | 8, _ => rfl
    | 9, _ => rfl
    | 10, _ => rfl
  rw [hz]
  unfold Builtin.zeroCells
  apply List.ext_getElem
  · simp
  · intro i h1 h2
    rw [List.getElem_replicate]
    simp only [Array.toList_map, List.getElem_map]
    exact hg _ (Nat.mod_lt _ (by decide))
theorem run_clear_units (w : World) (ty : TypeId) (g o n c : Nat) (hn : 0 < n) (hc : ∀ j, j < n * 11 → (w.cell? ⟨g, o + j, none⟩).isSome = true) (hf : ∀ j, j < n * 11 → w.frozen? ⟨g, o + j, none⟩ = false) :
    (Builtin.clear_ #[88] ty #[.slice (some ⟨g, o, none⟩) n c]).run Try.prog w = .ok (.tuple #[]) (w.setCells g o (List.replicate (n * 11) (.int .i64 0))) := by
  have hst := run_storeCells_cells (P := Try.prog) g o (List.replicate (n * 11) (Value.int .i64 0)) 0 w (by simpa using hc) (by simpa using hf) (by intro v hv'; rw [List.eq_of_mem_replicate hv']; rfl)
  simp only [Nat.add_zero] at hst
  obtain ⟨m, rfl⟩ : ∃ m, n = m + 1 := ⟨n - 1, by omega⟩
  simp [Builtin.clear_, run_underlying Try.underlying88, zeroU_cells, hst]
theorem rowU_store {base : Nat} {w : World} {g n c : Nat} {us : List (List Int)} (h : RowU base w (.slice (some ⟨g, 0, none⟩) n c) us) {i : Nat} (hi : i < us.length) (u : List Int) :
    RowU base (uniW w g (i * 11) u) (.slice (some ⟨g, 0, none⟩) n c) (us.set i u) := by
  have st : ∀ {W : World} {A : List (List Int)}, RowU base W (.slice (some ⟨g, 0, none⟩) n c) A → A.length = us.length → ∀ j, j < 11 → RowU base (W.setCell ⟨g, i * 11 + j, none⟩ (.int .i64 (fld u j))) (.slice (some ⟨g, 0, none⟩) n c) (A.set i (updR 11 (rec A i) j (fld u j))) := fun hA hl j hj => hA.put (by omega) hj _
  have h0 := st h rfl 0 (by omega)
  have h1 := st h0 (by simp) 1 (by omega)
  have h2 := st h1 (by simp) 2 (by omega)
  have h3 := st h2 (by simp) 3 (by omega)
  have h4 := st h3 (by simp) 4 (by omega)
  have h5 := st h4 (by simp) 5 (by omega)
  have h6 := st h5 (by simp) 6 (by omega)
  have h7 := st h6 (by simp) 7 (by omega)
  have h8 := st h7 (by simp) 8 (by omega)
  have h9 := st h8 (by simp) 9 (by omega)
  have h10 := st h9 (by simp) 10 (by omega)
  simp only [set_set, rec_set_same hi] at h10
  have hx : ∀ j, j < 11 → fld (updR 11 (updR 11 (updR 11 (updR 11 (updR 11 (updR 11 (updR 11 (updR 11 (updR 11 (updR 11 (updR 11 (rec us i) 0 (fld u 0)) 1 (fld u 1)) 2 (fld u 2)) 3 (fld u 3)) 4 (fld u 4)) 5 (fld u 5)) 6 (fld u 6)) 7 (fld u 7)) 8 (fld u 8)) 9 (fld u 9)) 10 (fld u 10)) j = fld u j := by
    intro j hj
    match j, hj with
    | 0, _ => simp [fld_updR]
    | 1, _ => simp [fld_updR]
    | 2, _ => simp [fld_updR]
    | 3, _ => simp [fld_updR]
    | 4, _ => simp [fld_updR]
    | 5, _ => simp [fld_updR]
    | 6, _ => simp [fld_updR]
    | 7, _ => simp [fld_updR]
    | 8, _ => simp [fld_updR]
    | 9, _ => simp [fld_updR]
    | 10, _ => simp [fld_updR]
  generalize updR 11 (updR 11 (updR 11 (updR 11 (updR 11 (updR 11 (updR 11 (updR 11 (updR 11 (updR 11 (updR 11 (rec us i) 0 (fld u 0)) 1 (fld u 1)) 2 (fld u 2)) 3 (fld u 3)) 4 (fld u 4)) 5 (fld u 5)) 6 (fld u 6)) 7 (fld u 7)) 8 (fld u 8)) 9 (fld u 9)) 10 (fld u 10) = v at h10 hx
  have hfl : flat 11 (us.set i u) = flat 11 (us.set i v) := flat_congrN (by simp) fun k hk j hj => by
    rw [List.length_set] at hk
    rw [rec_set hk, rec_set hk]
    split
    · exact (hx j hj).symm
    · rfl
  unfold RowU at h10 ⊢
  rw [hfl]
  rw [List.length_set] at h10 ⊢
  exact h10
theorem keep_uniW {W w : World} {g o : Nat} {u : List Int} (h : Keep W (some g) w) : Keep W (some g) (uniW w g o u) :=
  ⟨below_uniW h.1 (Nat.zero_le _), fun k hk hne => by
    exact (heap_setCells_other g _ _ w k (fun e => hne (by rw [e]))).trans (h.2 k hk hne)⟩
structure DelK (es : List (List Int)) (p : List Int → Bool) (j i : Nat) (D : List (List Int)) : Prop where
  len : D.length = es.length
  lt : i < j
  kept : D.take i = (es.take j).filter (fun u => !p u)
  rest : ∀ k, j ≤ k → k < es.length → rec D k = rec es k
theorem delK_start {es : List (List Int)} {p : List Int → Bool} {k : Nat} (hk : k < es.length) (ha : ∀ j, j < k → p (rec es j) = false) (hp : p (rec es k) = true) : DelK es p (k + 1) k es := by
  refine ⟨rfl, Nat.lt_succ_self _, ?_, fun _ _ _ => rfl⟩
  rw [take_rec hk, List.filter_append, List.filter_eq_self.2]
  · simp [hp]
  · intro u hu
    obtain ⟨j, hj, rfl⟩ := List.mem_iff_getElem.1 hu
    rw [List.length_take] at hj
    have := ha j (by omega)
    rw [rec_at (by omega)] at this
    rw [List.getElem_take, this]
    rfl
theorem delK_keep {es : List (List Int)} {p : List Int → Bool} {j i : Nat} {D : List (List Int)} (h : DelK es p j i D) (hj : j < es.length) (hp : p (rec es j) = false) : DelK es p (j + 1) (i + 1) (D.set i (rec es j)) := by
  have hl := h.len
  have hlt := h.lt
  refine ⟨by simpa using h.len, by omega, ?_, fun k hk hkl => ?_⟩
  · rw [take_rec (A := D.set i (rec es j)) (by rw [List.length_set]; omega), rec_set_same (by omega), take_rec hj, List.filter_append, List.take_set_of_le (Nat.le_refl _), h.kept]
    simp [hp]
  · rw [rec_set (by omega), if_neg (by omega)]
    exact h.rest k (by omega) hkl
theorem delK_skip {es : List (List Int)} {p : List Int → Bool} {j i : Nat} {D : List (List Int)} (h : DelK es p j i D) (hj : j < es.length) (hp : p (rec es j) = true) : DelK es p (j + 1) i D := by
  have hlt := h.lt
  refine ⟨h.len, by omega, ?_, fun k hk hkl => h.rest k (by omega) hkl⟩
  rw [take_rec hj, List.filter_append, h.kept]
  simp [hp]
theorem delK_done {es : List (List Int)} {p : List Int → Bool} {i : Nat} {D : List (List Int)} (h : DelK es p es.length i D) : D.take i = es.filter (fun u => !p u) ∧ (es.filter (fun u => !p u)).length = i := by
  have hk := h.kept
  rw [List.take_length] at hk
  refine ⟨hk, ?_⟩
  rw [← hk, List.length_take]
  have := h.lt
  have := h.len
  omega
theorem setCells_block (g : Nat) (T : TypeId) : ∀ (vs : List Value) (o : Nat) (w : World) (cur : Array Value), w.heap[g]? = some (.cells cur T (0, 0)) → ∃ cur' : Array Value, (w.setCells g o vs).heap[g]? = some (.cells cur' T (0, 0)) ∧ cur'.size = cur.size ∧ ∀ k, k < o → cur'[k]? = cur[k]?
  | [], _, _, cur, h => ⟨cur, h, rfl, fun _ _ => rfl⟩
  | v :: r, o, w, cur, h => by
    obtain ⟨cur', h1, h2, h3⟩ := setCells_block g T r (o + 1) _ _ (heap_setCell_same w g o cur T v h)
    refine ⟨cur', h1, by rw [h2]; simp, fun k hk => ?_⟩
    rw [h3 k (by omega), Array.getElem?_setIfInBounds, if_neg (by omega)]
theorem rowU_cut {base : Nat} {w : World} {g n c i : Nat} {D : List (List Int)} (h : RowU base w (.slice (some ⟨g, 0, none⟩) n c) D) (hn : D.length = n) (hi : i ≤ n) (zs : List Value) :
    RowU base (w.setCells g (i * 11) zs) (.slice (some ⟨g, 0, none⟩) i c) (D.take i) := by
  have hl : (D.take i).length = i := by rw [List.length_take]; omega
  unfold RowU at h ⊢
  rw [hl]
  refine ⟨by rw [flat_length, hl], ?_⟩
  rcases h.2 with ⟨hx, _⟩ | ⟨g', cap, cur, hx, hb, hg, hc1, hc2, hs, ht⟩
  · cases hx
  · cases hx
    obtain ⟨cur', h1, h2, h3⟩ := setCells_block g _ zs (i * 11) w cur hg
    refine Or.inr ⟨g, c, cur', rfl, hb, h1, by omega, hc2, by rw [h2]; exact hs, ?_⟩
    have e1 : flat 11 (D.take i) = (flat 11 D).take (i * 11) := by
      have e : flat 11 D = flat 11 (D.take i) ++ flat 11 (D.drop i) := by rw [← flat_append, List.take_append_drop]
      rw [e, List.take_append_of_le_length (by rw [flat_length, hl]; exact Nat.le_refl _), List.take_of_length_le (l := flat 11 (D.take i)) (by rw [flat_length, hl]; exact Nat.le_refl _)]
    rw [e1, ← ht, List.take_take, Nat.min_eq_left (by rw [hn]; exact Nat.mul_le_mul_right _ hi)]
    apply List.ext_getElem?
    intro k
    rw [List.getElem?_take, List.getElem?_take]
    split
    next hk => rw [Array.getElem?_toList, Array.getElem?_toList, h3 k hk]
    · rfl
theorem keep_setCells {W w : World} {g o : Nat} {vs : List Value} (h : Keep W (some g) w) : Keep W (some g) (w.setCells g o vs) :=
  ⟨below_setCells (Nat.zero_le _) _ _ _ h.1, fun k hk hne => (heap_setCells_other g vs o w k (fun e => hne (by rw [e]))).trans (h.2 k hk hne)⟩
theorem idxZ_first {p : List Int → Bool} {es : List (List Int)} {k : Nat} (h : idxZ p es = k) : ∀ j, j < k → p (rec es j) = false := by
  unfold idxZ at h
  cases hf : es.findIdx? p with
  | none =>
    rw [hf] at h
    simp only at h
    omega
  | some i =>
    rw [hf] at h
    simp only at h
    obtain ⟨hi, _, hn⟩ := List.findIdx?_eq_some_iff_getElem.1 hf
    intro j hj
    have := hn j (by omega)
    rw [rec_at (by omega)]
    simpa using this
theorem keep_refl (w : World) (r : Option Nat) : Keep w r w := ⟨Below.refl _ _, fun _ _ _ => rfl⟩
theorem keep_below {W w w' : World} {r : Option Nat} (h : Keep W r w) (hb : Below w.heap.size w w') : Keep W r w' :=
  ⟨h.1.trans (hb.mono (Nat.zero_le _)), fun k hk hn => (hb.block k (Nat.lt_of_lt_of_le hk h.1.size)).trans (h.2 k hk hn)⟩
set_option maxRecDepth 100000 in
set_option maxHeartbeats 8000000 in
theorem deleteU_calls (q : Nat) (eg : ∀ args w, (callFunc q args).run Try.prog w = .ok (.enter q args) w) (p : List Int → Bool) (base : Nat) (es : List (List Int)) (uv : Value) (w : World) (hn : es.length ≤ 1000) (hrow : RowU base w uv es)
    (hp : ∀ (W : World) (u : List Int), Calls Try.prog q #[unitV u] W fun e w' => e = .returned (.bool (p u)) ∧ Below W.heap.size W w') :
    Calls Try.prog 161 #[uv, .func (.func q) #[] #[]] w fun e w' => ∃ uv', e = .returned uv' ∧ RowU base w' uv' (es.filter fun u => !p u) ∧ Keep w uv.ownBlock w' ∧ uv'.ownBlock = uv.ownBlock := by
  obtain ⟨ea, c, rfl, hcap, hrecs, hg0⟩ := hrow.open
  have HI := hid (indexFuncU_calls q #[] eg p es ea c w hn hrecs (fun W u hb => by
    have h := hp W u
    refine h.mono ?_
    rintro e w' ⟨he, hb'⟩
    exact ⟨he, hb.trans (hb'.mono hb.size)⟩))
  have HP := hid hp
  have HR := hid hrow
  by_cases hz : idxZ p es < 0
  · have HE : Hid (es.filter (fun u => !p u) = es) := by
      show _ = _
      rw [List.filter_eq_self]
      intro u hu
      obtain ⟨i, hi, rfl⟩ := List.mem_iff_getElem.1 hu
      have := idxZ_neg_iff.1 hz i hi
      rw [rec_at hi] at this
      rw [this]
      rfl
    have hbd := idxZ_bd p es
    have hm1 : idxZ p es = -1 := by omega
    rw [hm1] at HI
    clear hp hrow hrecs hg0 hz hbd hm1
    go_enter Try.func161, Try.ntmps161
    go_wp2_with fail
    refine HI.out.mono ?_
    rintro e w1 ⟨rfl, hb1⟩
    have HB1 := hid hb1
    clear hb1
    go_wp2
    go_ret
    exact ⟨_, rfl, by rw [HE.out]; exact row_below HR.out HB1.out, keep_below (keep_refl _ _) HB1.out, rfl⟩
  · obtain ⟨hk, hpk⟩ := idxZ_at (show 0 ≤ idxZ p es by omega)
    obtain ⟨k0, hk0⟩ : ∃ k0 : Nat, idxZ p es = k0 := ⟨(idxZ p es).toNat, by omega⟩
    have hfirst := idxZ_first hk0
    rw [hk0] at HI hk hpk
    have hk' : k0 < es.length := by omega
    have ek0 : ((k0 : Int)).toNat = k0 := by omega
    have hpk' : p (rec es k0) = true := by rw [ek0] at hpk; exact hpk
    clear ek0
    obtain ⟨g, rfl, hbg, hgl⟩ := hg0 (by omega)
    have HD0 := hid (delK_start hk' hfirst hpk')
    have hne1 : ((k0 : Int) == -1) = false := beq_eq_false_iff_ne.2 (by omega)
    have hwr0 : IntKind.i64.wrap ((k0 : Int) + 1) = (k0 : Int) + 1 := IntWalk.i64_in _ ⟨by omega, by omega⟩
    clear hp hrow hrecs hg0 hz hk hpk hk0 hfirst hpk'
    go_enter Try.func161, Try.ntmps161
    go_wp2_with fail
    refine HI.out.mono ?_
    rintro e w1 ⟨rfl, hb1⟩
    have HR1 := hid (row_below HR.out hb1)
    have HK1 := hid (keep_below (keep_refl w (some g)) hb1)
    clear hb1 HI HR
    go_wp2
    go_loopg [5, 6, 7] es.length (fun gg s5 s6 _ wr => ∃ (i j : Nat) (D : List (List Int)), s5 = .int .i64 i ∧ s6 = .int .i64 j ∧ j ≤ es.length ∧ es.length - j ≤ gg ∧ Hid (RowU base wr (.slice (some ⟨g, 0, none⟩) es.length c) D) ∧ Hid (Keep w (some g) wr) ∧ Hid (DelK es p j i D))
    case atStart => exact ⟨k0, k0 + 1, es, rfl, by go_num, by omega, by omega, HR1, HK1, HD0⟩
    case round =>
      obtain ⟨i, j, D, rfl, rfl, hje, hgg, HRr, HKr, HDr⟩ := hrel
      clear HR1 HK1 HD0
      have hij := HDr.out.lt
      have hDl := HDr.out.len
      by_cases hlt : j < es.length
      · have hltz : (j : Int) < (es.length : Int) := by omega
        obtain ⟨hc, _⟩ := HRr.out.cells (i := j) (by omega)
        rw [HDr.out.rest j (Nat.le_refl _) hlt] at hc
        obtain ⟨hci, hfi⟩ := HRr.out.cells (i := i) (by omega)
        have l0 : wr.cell? ⟨g, j * 11, none⟩ = some (.int .i64 (fld (rec es j) 0)) := hc 0 (by omega)
        have l1 := hc 1 (by omega)
        have l2 := hc 2 (by omega)
        have l3 := hc 3 (by omega)
        have l4 := hc 4 (by omega)
        have l5 := hc 5 (by omega)
        have l6 := hc 6 (by omega)
        have l7 := hc 7 (by omega)
        have l8 := hc 8 (by omega)
        have l9 := hc 9 (by omega)
        have l10 := hc 10 (by omega)
        have HKP := hid (fun h => delK_keep HDr.out hlt h)
        have HSP := hid (fun h => delK_skip HDr.out hlt h)
        generalize rec es j = u at l0 l1 l2 l3 l4 l5 l6 l7 l8 l9 l10 HKP HSP
        obtain ⟨X, hX⟩ : ∃ X, wr.alloc (.cells (unitC u) 110) = X := ⟨_, rfl⟩
        have hbX : Below wr.heap.size wr X := by rw [← hX]; exact (Below.refl _ _).alloc (Nat.le_refl _) _
        have hhX : X.heap[wr.heap.size]? = some (.cells (unitC u) 110) := by rw [← hX]; exact heap_alloc_new _ _
        have HXX := hid hX
        have x0 : X.cell? ⟨wr.heap.size, 0, none⟩ = some (.int .i64 (fld u 0)) := cell_of_row X _ 0 _ _ _ hhX
        have x1 : X.cell? ⟨wr.heap.size, 1, none⟩ = some (.int .i64 (fld u 1)) := cell_of_row X _ 1 _ _ _ hhX
        have x2 : X.cell? ⟨wr.heap.size, 2, none⟩ = some (.int .i64 (fld u 2)) := cell_of_row X _ 2 _ _ _ hhX
        have x3 : X.cell? ⟨wr.heap.size, 3, none⟩ = some (.int .i64 (fld u 3)) := cell_of_row X _ 3 _ _ _ hhX
        have x4 : X.cell? ⟨wr.heap.size, 4, none⟩ = some (.int .i64 (fld u 4)) := cell_of_row X _ 4 _ _ _ hhX
        have x5 : X.cell? ⟨wr.heap.size, 5, none⟩ = some (.int .i64 (fld u 5)) := cell_of_row X _ 5 _ _ _ hhX
        have x6 : X.cell? ⟨wr.heap.size, 6, none⟩ = some (.int .i64 (fld u 6)) := cell_of_row X _ 6 _ _ _ hhX
        have x7 : X.cell? ⟨wr.heap.size, 7, none⟩ = some (.int .i64 (fld u 7)) := cell_of_row X _ 7 _ _ _ hhX
        have x8 : X.cell? ⟨wr.heap.size, 8, none⟩ = some (.int .i64 (fld u 8)) := cell_of_row X _ 8 _ _ _ hhX
        have x9 : X.cell? ⟨wr.heap.size, 9, none⟩ = some (.int .i64 (fld u 9)) := cell_of_row X _ 9 _ _ _ hhX
        have x10 : X.cell? ⟨wr.heap.size, 10, none⟩ = some (.int .i64 (fld u 10)) := cell_of_row X _ 10 _ _ _ hhX
        have HHX := hid hhX
        have HRX := hid (row_below HRr.out hbX)
        have HKX := hid (keep_below HKr.out hbX)
        have hsX : wr.heap.size < X.heap.size := (Array.getElem?_eq_some_iff.1 hhX).1
        have HC := hid (HP.out X u)
        clear hc hci hfi hX hbX hhX HRr HKr HDr
        go_upto_region 8 with fail
        rw [HXX.out]
        clear l0 l1 l2 l3 l4 l5 l6 l7 l8 l9 l10
        go_wp2_with fail
        refine HC.out.mono ?_
        rintro e w3 ⟨rfl, hb3⟩
        clear x0 x1 x2 x3 x4 x5 x6 x7 x8 x9 x10 HC
        have hR3 : RowU base w3 (.slice (some ⟨g, 0, none⟩) es.length c) D := row_below HRX.out hb3
        have hK3 := keep_below HKX.out hb3
        have hh3 := (hb3.block _ hsX).trans HHX.out
        cases hpu : p u with
        | true =>
          have HD3 := hid (HSP.out hpu)
          have HR3 := hid hR3
          have HK3 := hid hK3
          clear hb3 hR3 hK3 hh3 hpu HRX HKX HHX
          go_wp2
          go_roundg (es.length - (j + 1))
          case measure => omega
          case rel => exact ⟨i, j + 1, D, rfl, by go_num, by omega, Nat.le_refl _, HR3, HK3, HD3⟩
        | false =>
          have HD3 := hid (HKP.out hpu)
          obtain ⟨hci, hfi⟩ := hR3.cells (i := i) (by omega)
          have k0 : w3.cell? ⟨g, i * 11, none⟩ = some _ := hci 0 (by omega)
          have k1 := hci 1 (by omega)
          have k2 := hci 2 (by omega)
          have k3 := hci 3 (by omega)
          have k4 := hci 4 (by omega)
          have k5 := hci 5 (by omega)
          have k6 := hci 6 (by omega)
          have k7 := hci 7 (by omega)
          have k8 := hci 8 (by omega)
          have k9 := hci 9 (by omega)
          have k10 := hci 10 (by omega)
          have x0 : w3.cell? ⟨wr.heap.size, 0, none⟩ = some (.int .i64 (fld u 0)) := cell_of_row w3 _ 0 _ _ _ hh3
          have x1 : w3.cell? ⟨wr.heap.size, 1, none⟩ = some (.int .i64 (fld u 1)) := cell_of_row w3 _ 1 _ _ _ hh3
          have x2 : w3.cell? ⟨wr.heap.size, 2, none⟩ = some (.int .i64 (fld u 2)) := cell_of_row w3 _ 2 _ _ _ hh3
          have x3 : w3.cell? ⟨wr.heap.size, 3, none⟩ = some (.int .i64 (fld u 3)) := cell_of_row w3 _ 3 _ _ _ hh3
          have x4 : w3.cell? ⟨wr.heap.size, 4, none⟩ = some (.int .i64 (fld u 4)) := cell_of_row w3 _ 4 _ _ _ hh3
          have x5 : w3.cell? ⟨wr.heap.size, 5, none⟩ = some (.int .i64 (fld u 5)) := cell_of_row w3 _ 5 _ _ _ hh3
          have x6 : w3.cell? ⟨wr.heap.size, 6, none⟩ = some (.int .i64 (fld u 6)) := cell_of_row w3 _ 6 _ _ _ hh3
          have x7 : w3.cell? ⟨wr.heap.size, 7, none⟩ = some (.int .i64 (fld u 7)) := cell_of_row w3 _ 7 _ _ _ hh3
          have x8 : w3.cell? ⟨wr.heap.size, 8, none⟩ = some (.int .i64 (fld u 8)) := cell_of_row w3 _ 8 _ _ _ hh3
          have x9 : w3.cell? ⟨wr.heap.size, 9, none⟩ = some (.int .i64 (fld u 9)) := cell_of_row w3 _ 9 _ _ _ hh3
          have x10 : w3.cell? ⟨wr.heap.size, 10, none⟩ = some (.int .i64 (fld u 10)) := cell_of_row w3 _ 10 _ _ _ hh3
          have hilt : (i : Int) < (es.length : Int) := by omega
          have hiz0 : (0 : Int) ≤ (i : Int) := by omega
          have hwri : IntKind.i64.wrap ((i : Int) + 1) = (i : Int) + 1 := IntWalk.i64_in _ ⟨by omega, by omega⟩
          have HR4 := hid (rowU_store hR3 (i := i) (by omega) u)
          have HK4 := hid (keep_uniW (o := i * 11) (u := u) hK3)
          clear hb3 hR3 hK3 hh3 hpu HRX HKX HHX hci
          go_wp2
          go_roundg (es.length - (j + 1))
          case measure => omega
          case rel => exact ⟨i + 1, j + 1, _, by go_num, by go_num, by omega, Nat.le_refl _, HR4, HK4, HD3⟩
      · obtain rfl : j = es.length := by omega
        have hltz : ¬ (es.length : Int) < (es.length : Int) := by omega
        obtain ⟨he1, he2⟩ := delK_done HDr.out
        have hcc : ∀ k, k < (es.length - i) * 11 → (wr.cell? ⟨g, i * 11 + k, none⟩).isSome = true := fun k hk => by
          have hq : i + k / 11 < D.length := by omega
          have := (HRr.out.cells hq).1 (k % 11) (Nat.mod_lt _ (by omega))
          have e : i * 11 + k = (i + k / 11) * 11 + k % 11 := by omega
          rw [e, this]
          rfl
        have hff : ∀ k, k < (es.length - i) * 11 → wr.frozen? ⟨g, i * 11 + k, none⟩ = false := fun k _ => (HRr.out.cells (i := i) (by omega)).2 _
        have hcl := fun ty => run_clear_units wr ty g (i * 11) (es.length - i) (c - i) (by omega) hcc hff
        have HR5 := hid (rowU_cut HRr.out hDl (Nat.le_of_lt hij) (List.replicate ((es.length - i) * 11) (.int .i64 0)))
        have HK5 := hid (keep_setCells (o := i * 11) (vs := List.replicate ((es.length - i) * 11) (.int .i64 0)) HKr.out)
        rw [he1] at HR5
        have hiz0 : (0 : Int) ≤ (i : Int) := by omega
        have hile : (i : Int) ≤ (es.length : Int) := by omega
        have hilc : (i : Int) ≤ (c : Int) := by omega
        have hile' : i ≤ es.length := by omega
        have hilc' : i ≤ c := by omega
        clear hcc hff HRr HKr HDr he1 he2
        go_wp2
        go_ret
        exact ⟨_, rfl, HR5.out, HK5.out, rfl⟩
end Go.Proofs.Ytmnddahkbmlibaa
