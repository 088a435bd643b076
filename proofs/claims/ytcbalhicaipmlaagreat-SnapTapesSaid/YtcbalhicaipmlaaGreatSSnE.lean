/- Package snap: a state is written. -/
import Derived.Test.YtcbalhicaipmlaaGreatSNwK
import Derived.Test.YtcbalhicaipmlaaGreatSSnC
import Derived.Test.YtcbalhicaipmlaaGreatSEsRA
namespace Go.Proofs.YtcbalhicaipmlaaGreat
open Go.RowKit
theorem nums_block {w w' : World} {g : Nat} {zs : List Int} (h : w'.heap[g]? = w.heap[g]?) (hn : Nums w (some ⟨g, 0, none⟩) zs) : Nums w' (some ⟨g, 0, none⟩) zs := by
  rcases hn with rfl | ⟨b, o, e, hc⟩
  · exact Or.inl rfl
  · cases e
    refine Or.inr ⟨g, 0, rfl, fun i hi => ?_⟩
    have := hc i hi
    unfold World.cell? at this ⊢
    simp only at this ⊢
    rw [h]
    exact this
theorem kept_block {b : Nat} {w w' : World} {k : Nat} {cs : Array Value} {t : TypeId} {fz : Nat × Nat} (hk : KeptW b w w') (h : w.heap[k]? = some (.cells cs t fz)) (hb : k ≠ b) (ht : t ≠ 5) : w'.heap[k]? = some (.cells cs t fz) :=
  hk k _ h (fun e => hb (by cases e; rfl)) (fun c fz' e => ht (by cases e; rfl))
theorem stays_new {B b : Nat} {w : World} {cs : Array Value} {zs : List Int} (hn : Nums (w.alloc (.cells cs 3)) (some ⟨w.heap.size, 0, none⟩) zs) (hb : b < w.heap.size) : Stays B b (w.alloc (.cells cs 3)) (some ⟨w.heap.size, 0, none⟩) zs := fun w' _ hk => by
  have h0 : (w.alloc (.cells cs 3)).heap[w.heap.size]? = some (.cells cs 3) := heap_alloc_new _ _
  exact nums_block ((kept_block hk h0 (by omega) (by decide)).trans h0.symm) hn
theorem numsL_nil : numsL [] = [] := rfl
theorem nums_eleven (w : World) (s : List Int) (t : TypeId) : Nums (w.alloc (.cells (unitC s) t)) (some ⟨w.heap.size, 0, none⟩) (normK 11 s) := by
  refine Or.inr ⟨w.heap.size, 0, rfl, fun i hi => ?_⟩
  have hh := heap_alloc_new w (.cells (unitC s) t)
  rw [cell_of_row _ _ (0 + i) _ _ _ hh]
  have hi' : i < 11 := by simpa [normK] using hi
  match i, hi' with
  | 0, _ | 1, _ | 2, _ | 3, _ | 4, _ | 5, _ | 6, _ | 7, _ | 8, _ | 9, _ | 10, _ => rfl
theorem recs_take {k n : Nat} {es : List (List Int)} (h : n < es.length) : (es.take (n + 1)).flatMap (normK k) = (es.take n).flatMap (normK k) ++ normK k (rec es n) := by
  rw [take_rec h, List.flatMap_append]
  simp
theorem flat_norm_length (k : Nat) : ∀ es : List (List Int), (es.flatMap (normK k)).length = k * es.length
  | [] => rfl
  | u :: es => by
    rw [List.flatMap_cons, List.length_append, flat_norm_length k es, normK_length, List.length_cons, Nat.mul_succ]
    omega
theorem Recs.eleven {w : World} {a : Option Addr} {es : List (List Int)} (h : Recs w a 11 es) {i : Nat} (hi : i < es.length) :
    ∃ b o, a = some ⟨b, o, none⟩ ∧ b < w.heap.size ∧ w.cell? ⟨b, o + i * 11, none⟩ = some (.int .i64 (fld (rec es i) 0)) ∧ w.cell? ⟨b, o + i * 11 + 1, none⟩ = some (.int .i64 (fld (rec es i) 1)) ∧ w.cell? ⟨b, o + i * 11 + 2, none⟩ = some (.int .i64 (fld (rec es i) 2)) ∧ w.cell? ⟨b, o + i * 11 + 3, none⟩ = some (.int .i64 (fld (rec es i) 3)) ∧ w.cell? ⟨b, o + i * 11 + 4, none⟩ = some (.int .i64 (fld (rec es i) 4)) ∧ w.cell? ⟨b, o + i * 11 + 5, none⟩ = some (.int .i64 (fld (rec es i) 5)) ∧ w.cell? ⟨b, o + i * 11 + 6, none⟩ = some (.int .i64 (fld (rec es i) 6)) ∧ w.cell? ⟨b, o + i * 11 + 7, none⟩ = some (.int .i64 (fld (rec es i) 7)) ∧ w.cell? ⟨b, o + i * 11 + 8, none⟩ = some (.int .i64 (fld (rec es i) 8)) ∧ w.cell? ⟨b, o + i * 11 + 9, none⟩ = some (.int .i64 (fld (rec es i) 9)) ∧ w.cell? ⟨b, o + i * 11 + 10, none⟩ = some (.int .i64 (fld (rec es i) 10)) := by
  obtain ⟨b, o, e, hc⟩ := h.at hi
  exact ⟨b, o, e, World.block_lt_of_cell? w _ (hc 0 (by omega)), hc 0 (by omega), hc 1 (by omega), hc 2 (by omega), hc 3 (by omega), hc 4 (by omega), hc 5 (by omega), hc 6 (by omega), hc 7 (by omega), hc 8 (by omega), hc 9 (by omega), hc 10 (by omega)⟩
theorem put_fresh (B b : Nat) (l : List UInt8) (cs : Array Value) (zs : List Int) (w : World) (h : IsW B b l w) (hn : Nums (w.alloc (.cells cs 3)) (some ⟨w.heap.size, 0, none⟩) zs) (hz : ∀ z ∈ zs, Sml z) (hl : l.length + 9 * zs.length ≤ 1000000) (hB : B ≤ w.heap.size) :
    Calls Tryz.prog 99 #[.pointer (some ⟨b, 0, none⟩), .slice (some ⟨w.heap.size, 0, none⟩) zs.length zs.length] (w.alloc (.cells cs 3)) fun e w' => e = .returned (.tuple #[]) ∧ IsW B b (l ++ numsL zs) w' ∧ Below B w w' ∧ KeptW b w w' := by
  have hbW : Below w.heap.size w (w.alloc (.cells cs 3)) := (Below.refl _ _).alloc (Nat.le_refl _) _
  refine (put_calls B b l _ zs.length zs _ (h.below hbW) (stays_new hn h.lt) hz hl (by have := hbW.size; omega)).mono ?_
  rintro e w' ⟨rfl, h1, h2, h3⟩
  exact ⟨rfl, h1, (hbW.mono hB).trans h2, (kept_below (Lib.OthersKept.refl _ _ w) hbW).trans h3⟩
set_option maxHeartbeats 4000000 in
set_option maxRecDepth 100000 in
theorem writeElder_calls (B b : Nat) (l : List UInt8) (s : St) (fa ea : Option Addr) (fc ec : Nat) (w : World) (h : IsW B b l w) (hin : ∀ w', Below B w w' → InE w' s fa ea fc ec) (hm : SmlS 10 s) (hl : l.length ≤ 100000) (hB : B ≤ w.heap.size) :
    Calls Tryz.prog 65 #[.pointer (some ⟨b, 0, none⟩), elderV s.t s.g0 s.g1 s.nx (.slice fa s.free.length fc) (.slice ea s.es.length ec)] w fun e w' => e = .returned (.tuple #[]) ∧ IsW B b (l ++ numsL (elderN s)) w' ∧ Below B w w' ∧ KeptW b w w' := by
  obtain ⟨W, hW⟩ : ∃ W, w.alloc (.cells (elC s.t s.g0 s.g1 s.nx (.slice fa s.free.length fc) (.slice ea s.es.length ec)) 26) = W := ⟨_, rfl⟩
  have hbW : Below w.heap.size w W := by rw [← hW]; exact (Below.refl _ w).alloc (Nat.le_refl _) _
  have hsW : W.heap.size = w.heap.size + 1 := by rw [← hW]; simp [go_sem]
  have hh0 : W.heap[w.heap.size]? = some (.cells (elC s.t s.g0 s.g1 s.nx (.slice fa s.free.length fc) (.slice ea s.es.length ec)) 26) := by rw [← hW]; exact heap_alloc_new _ _
  have hbB : b < w.heap.size := h.lt
  have HW : Hid (IsW B b l W) := h.below hbW
  have HKW : Hid (KeptW b w W) := kept_below (Lib.OthersKept.refl _ _ w) hbW
  have HBW : Hid (Below B w W) := hbW.mono hB
  have HIN := hid hin
  have HM := hid hm
  have HSW := hid hsW
  have hfl := hm.fl
  have hel := hm.el
  have hln4 := numsL_length [s.t, s.g0, s.g1, s.nx]
  obtain ⟨x0, x1, x2, x3, x4, x5⟩ := elder_cells hh0
  have HBOX : Hid (∀ wx, KeptW b W wx → wx.heap[w.heap.size]? = some (.cells (elC s.t s.g0 s.g1 s.nx (.slice fa s.free.length fc) (.slice ea s.es.length ec)) 26)) := fun wx hk => kept_block hk hh0 (by omega) (by decide)
  have HP1 := hid (put_fresh B b l _ [s.t, s.g0, s.g1, s.nx] W HW.out (nums_four W s.t s.g0 s.g1 s.nx 3) (head_sml hm) (by simp; omega) (by omega))
  clear h hin hm hbW hsW hh0
  go_enter Tryz.func65, Tryz.ntmps65
  go_wp2_with fail
  refine HP1.out.mono ?_
  rintro e w2 ⟨rfl, hw2, hb2, hk2⟩
  have hB2 : Below B w w2 := HBW.out.trans hb2
  have HK2 := hid hk2
  obtain ⟨l2, hl2⟩ : ∃ l2, l ++ numsL [s.t, s.g0, s.g1, s.nx] = l2 := ⟨_, rfl⟩
  rw [hl2] at hw2
  have hll2 : l2.length ≤ 100036 := by rw [← hl2, List.length_append]; simp at hln4; omega
  have HL2 := hid hl2
  clear hl2 x0 x1 x2 x3 x4 x5 hW HP1 hk2 hb2
  obtain ⟨x0, x1, x2, x3, x4, x5⟩ := elder_cells (HBOX.out w2 HK2.out)
  have HP2 := hid (put_fresh B b l2 _ [(s.free.length : Int)] w2 hw2 (nums_one w2 _ 3) (by intro z hz; rw [List.mem_singleton.1 hz]; exact ⟨by omega, by omega⟩) (by simp; omega) (by have := hB2.size; omega))
  have HB2 := hid hB2
  clear hw2 hB2
  go_wp2_with fail
  refine HP2.out.mono ?_
  rintro e w3 ⟨rfl, hw3, hb3, hk3⟩
  have hB3 : Below B w w3 := HB2.out.trans hb3
  have hK3 : KeptW b W w3 := HK2.out.trans hk3
  obtain ⟨l3, hl3⟩ : ∃ l3, l2 ++ numsL [(s.free.length : Int)] = l3 := ⟨_, rfl⟩
  rw [hl3] at hw3
  have hll3 : l3.length ≤ 100045 := by
    have := numsL_length [(s.free.length : Int)]
    simp at this
    rw [← hl3, List.length_append]; omega
  have HL3 := hid hl3
  obtain ⟨y0, y1, y2, y3, y4, y5⟩ := elder_cells (HBOX.out w3 hK3)
  have hst : Stays B b w3 fa s.free := fun wx hx _ => (HIN.out wx (hB3.trans hx)).nums
  have HP3 := hid (put_calls B b l3 fa fc s.free w3 hw3 hst HM.out.fr (by omega) (by have := hB3.size; omega))
  have HB3 := hid hB3
  have HK3 := hid hK3
  clear hl3 x0 x1 x2 x3 x4 x5 HP2 hk3 hb3 hw3 hst hB3 hK3
  go_wp2_with fail
  refine HP3.out.mono ?_
  rintro e w4 ⟨rfl, hw4, hb4, hk4⟩
  have hB4 : Below B w w4 := HB3.out.trans hb4
  have hK4 : KeptW b W w4 := HK3.out.trans hk4
  obtain ⟨l4, hl4⟩ : ∃ l4, l3 ++ numsL s.free = l4 := ⟨_, rfl⟩
  rw [hl4] at hw4
  have hll4 : l4.length ≤ 110000 := by
    have := numsL_length s.free
    rw [← hl4, List.length_append]; omega
  have HL4 := hid hl4
  obtain ⟨x0, x1, x2, x3, x4, x5⟩ := elder_cells (HBOX.out w4 hK4)
  clear hl4 y0 y1 y2 y3 y4 y5 HP3 hk4 hb4
  have HP5 := hid (put_fresh B b l4 _ [(s.es.length : Int)] w4 hw4 (nums_one w4 _ 3) (by intro z hz; rw [List.mem_singleton.1 hz]; exact ⟨by omega, by omega⟩) (by simp; omega) (by have := hB4.size; omega))
  have HB4 := hid hB4
  have HK4 := hid hK4
  clear hw4 hB4 hK4
  go_wp2_with fail
  refine HP5.out.mono ?_
  rintro e w5 ⟨rfl, hw5, hb5, hk5⟩
  have hB5 : Below B w w5 := HB4.out.trans hb5
  have hK5 : KeptW b W w5 := HK4.out.trans hk5
  obtain ⟨l5, hl5⟩ : ∃ l5, l4 ++ numsL [(s.es.length : Int)] = l5 := ⟨_, rfl⟩
  rw [hl5] at hw5
  have hll5 : l5.length ≤ 110100 := by
    have := numsL_length [(s.es.length : Int)]
    simp at this
    rw [← hl5, List.length_append]; omega
  have HL5 := hid hl5
  have HI5 : Hid (IsW B b l5 w5 ∧ Below B w w5 ∧ KeptW b W w5) := ⟨hw5, hB5, hK5⟩
  clear hl5 x0 x1 x2 x3 x4 x5 HP5 hk5 hb5 hw5
  obtain ⟨x0, x1, x2, x3, x4, x5⟩ := elder_cells (HBOX.out w5 hK5)
  clear hB5 hK5
  go_wp2_with fail
  go_loopw [38] (fun i wr => ∃ k : Nat, k ≤ s.es.length ∧ i = .int .i64 k ∧ Hid (IsW B b (l5 ++ numsL ((s.es.take k).flatMap (normK 10))) wr ∧ Below B w wr ∧ KeptW b W wr)) (fun i _ => s.es.length - (intOf i).toNat)
  case atStart => exact ⟨0, Nat.zero_le _, rfl, by rw [List.take_zero]; show IsW B b (l5 ++ []) w5; rw [List.append_nil]; exact HI5.out.1, HI5.out.2⟩
  case round =>
    obtain ⟨k, hk, rfl, HR⟩ := hrel
    by_cases hlt : k < s.es.length
    · have hltz : (k : Int) < (s.es.length : Int) := by omega
      obtain ⟨q, o, rfl, hq, q0, q1, q2, q3, q4, q5, q6, q7, q8, q9⟩ := (HIN.out wr HR.out.2.1).rows.ten hlt
      have hN : numsL ((s.es.take (k + 1)).flatMap (normK 10)) = numsL ((s.es.take k).flatMap (normK 10)) ++ numsL (normK 10 (rec s.es k)) := by rw [recs_take hlt, numsL_append]
      have hu : ∀ z ∈ normK 10 (rec s.es k), Sml z := fun z hz => by
        unfold normK at hz
        obtain ⟨j, hj, rfl⟩ := List.mem_map.1 hz
        exact HM.out.es _ (rec_mem hlt) j (List.mem_range.1 hj)
      have hlen : (l5 ++ numsL ((s.es.take k).flatMap (normK 10))).length ≤ 120000 := by
        have h1 := numsL_length ((s.es.take k).flatMap (normK 10))
        rw [flat_norm_length, List.length_take] at h1
        rw [List.length_append]
        omega
      generalize rec s.es k = u at q0 q1 q2 q3 q4 q5 q6 q7 q8 q9 hN hu
      obtain ⟨X, hX⟩ : ∃ X, wr.alloc (.cells (entC u) 119) = X := ⟨_, rfl⟩
      have hbX : Below wr.heap.size wr X := by rw [← hX]; exact (Below.refl _ _).alloc (Nat.le_refl _) _
      have hhX : X.heap[wr.heap.size]? = some (.cells (entC u) 119) := by rw [← hX]; exact heap_alloc_new _ _
      have z0 : X.cell? ⟨wr.heap.size, 0, none⟩ = some (.int .i64 (fld u 0)) := cell_of_row X _ 0 _ _ _ hhX
      have z1 : X.cell? ⟨wr.heap.size, 1, none⟩ = some (.int .i64 (fld u 1)) := cell_of_row X _ 1 _ _ _ hhX
      have z2 : X.cell? ⟨wr.heap.size, 2, none⟩ = some (.int .i64 (fld u 2)) := cell_of_row X _ 2 _ _ _ hhX
      have z3 : X.cell? ⟨wr.heap.size, 3, none⟩ = some (.int .i64 (fld u 3)) := cell_of_row X _ 3 _ _ _ hhX
      have z4 : X.cell? ⟨wr.heap.size, 4, none⟩ = some (.int .i64 (fld u 4)) := cell_of_row X _ 4 _ _ _ hhX
      have z5 : X.cell? ⟨wr.heap.size, 5, none⟩ = some (.int .i64 (fld u 5)) := cell_of_row X _ 5 _ _ _ hhX
      have z6 : X.cell? ⟨wr.heap.size, 6, none⟩ = some (.int .i64 (fld u 6)) := cell_of_row X _ 6 _ _ _ hhX
      have z7 : X.cell? ⟨wr.heap.size, 7, none⟩ = some (.int .i64 (fld u 7)) := cell_of_row X _ 7 _ _ _ hhX
      have z8 : X.cell? ⟨wr.heap.size, 8, none⟩ = some (.int .i64 (fld u 8)) := cell_of_row X _ 8 _ _ _ hhX
      have z9 : X.cell? ⟨wr.heap.size, 9, none⟩ = some (.int .i64 (fld u 9)) := cell_of_row X _ 9 _ _ _ hhX
      have hBX : Below B w X := HR.out.2.1.trans (hbX.mono (by have := HR.out.2.1.size; omega))
      have HPX := hid (put_fresh B b _ _ (normK 10 u) X (HR.out.1.below hbX) (nums_ten X u 3) hu (by rw [normK_length]; omega) (by have := hBX.size; omega))
      have HBX := hid hBX
      have HKX : Hid (KeptW b W X) := kept_below HR.out.2.2 hbX
      have HN := hid hN
      rw [normK_length] at HPX
      clear hbX hhX hBX hN hu hlen HR
      go_wp2_with fail
      refine HPX.out.mono ?_
      rintro e w6 ⟨rfl, hw6, hb6, hk6⟩
      have HR6 : Hid (IsW B b (l5 ++ numsL ((s.es.take (k + 1)).flatMap (normK 10))) w6 ∧ Below B w w6 ∧ KeptW b W w6) := ⟨by rw [HN.out, ← List.append_assoc]; exact hw6, HBX.out.trans hb6, HKX.out.trans hk6⟩
      clear hw6 hb6 hk6 HPX z0 z1 z2 z3 z4 z5 z6 z7 z8 z9 q0 q1 q2 q3 q4 q5 q6 q7 q8 q9 hX
      go_wp2
      go_roundw
      case rel => exact ⟨k + 1, by omega, by go_num, HR6.out⟩
      case measure => simp [intOf]; omega
    · have hltz : ¬ (k : Int) < (s.es.length : Int) := by omega
      have e : s.es.take k = s.es := List.take_of_length_le (by omega)
      rw [e] at HR
      go_wp2
      go_end0
      have eN : l5 ++ numsL (s.es.flatMap (normK 10)) = l ++ numsL (elderN s) := by
        unfold elderN recsN
        simp only [numsL_append, numsL_cons, numsL_nil, List.append_assoc, List.nil_append]
        rw [← HL5.out, ← HL4.out, ← HL3.out, ← HL2.out]
        simp only [numsL_cons, numsL_nil, List.append_assoc, List.nil_append]
      exact ⟨rfl, by rw [← eN]; exact HR.out.1, HR.out.2.1, HKW.out.trans HR.out.2.2⟩
set_option maxHeartbeats 4000000 in
set_option maxRecDepth 100000 in
theorem writeNewer_calls (B b : Nat) (l : List UInt8) (s : St) (ea : Option Addr) (ec : Nat) (w : World) (h : IsW B b l w) (hin : ∀ w', Below B w w' → InW w' s ea ec) (hm : SmlS 11 s) (hl : l.length ≤ 100000) (hB : B ≤ w.heap.size) :
    Calls Tryz.prog 84 #[.pointer (some ⟨b, 0, none⟩), newerV s.t s.g0 s.g1 s.nx (.slice ea s.es.length ec)] w fun e w' => e = .returned (.tuple #[]) ∧ IsW B b (l ++ numsL (newerN s)) w' ∧ Below B w w' ∧ KeptW b w w' := by
  obtain ⟨W, hW⟩ : ∃ W, w.alloc (.cells (newerC s.t s.g0 s.g1 s.nx (.slice ea s.es.length ec)) 32) = W := ⟨_, rfl⟩
  have hbW : Below w.heap.size w W := by rw [← hW]; exact (Below.refl _ w).alloc (Nat.le_refl _) _
  have hsW : W.heap.size = w.heap.size + 1 := by rw [← hW]; simp [go_sem]
  have hh0 : W.heap[w.heap.size]? = some (.cells (newerC s.t s.g0 s.g1 s.nx (.slice ea s.es.length ec)) 32) := by rw [← hW]; exact heap_alloc_new _ _
  have hbB : b < w.heap.size := h.lt
  have HW : Hid (IsW B b l W) := h.below hbW
  have HKW : Hid (KeptW b w W) := kept_below (Lib.OthersKept.refl _ _ w) hbW
  have HBW : Hid (Below B w W) := hbW.mono hB
  have HIN := hid hin
  have HM := hid hm
  have HSW := hid hsW
  have hfl := hm.fl
  have hel := hm.el
  have hln4 := numsL_length [s.t, s.g0, s.g1, s.nx]
  obtain ⟨x0, x1, x2, x3, x4, _⟩ := five_cells hh0
  have HBOX : Hid (∀ wx, KeptW b W wx → wx.heap[w.heap.size]? = some (.cells (newerC s.t s.g0 s.g1 s.nx (.slice ea s.es.length ec)) 32)) := fun wx hk => kept_block hk hh0 (by omega) (by decide)
  have HP1 := hid (put_fresh B b l _ [s.t, s.g0, s.g1, s.nx] W HW.out (nums_four W s.t s.g0 s.g1 s.nx 3) (head_sml hm) (by simp; omega) (by omega))
  clear h hin hm hbW hsW hh0
  go_enter Tryz.func84, Tryz.ntmps84
  go_wp2_with fail
  refine HP1.out.mono ?_
  rintro e w2 ⟨rfl, hw2, hb2, hk2⟩
  have hB2 : Below B w w2 := HBW.out.trans hb2
  have HK2 := hid hk2
  obtain ⟨l2, hl2⟩ : ∃ l2, l ++ numsL [s.t, s.g0, s.g1, s.nx] = l2 := ⟨_, rfl⟩
  rw [hl2] at hw2
  have hll2 : l2.length ≤ 100036 := by rw [← hl2, List.length_append]; simp at hln4; omega
  have HL2 := hid hl2
  clear hl2 x0 x1 x2 x3 x4 hW HP1 hk2 hb2
  have hK2 : KeptW b W w2 := HK2.out
  obtain ⟨x0, x1, x2, x3, x4, _⟩ := five_cells (HBOX.out w2 hK2)
  have HP5 := hid (put_fresh B b l2 _ [(s.es.length : Int)] w2 hw2 (nums_one w2 _ 3) (by intro z hz; rw [List.mem_singleton.1 hz]; exact ⟨by omega, by omega⟩) (by simp; omega) (by have := hB2.size; omega))
  have HB4 := hid hB2
  have HK4 := hid hK2
  clear hw2 hB2 hK2
  go_wp2_with fail
  refine HP5.out.mono ?_
  rintro e w5 ⟨rfl, hw5, hb5, hk5⟩
  have hB5 : Below B w w5 := HB4.out.trans hb5
  have hK5 : KeptW b W w5 := HK4.out.trans hk5
  obtain ⟨l5, hl5⟩ : ∃ l5, l2 ++ numsL [(s.es.length : Int)] = l5 := ⟨_, rfl⟩
  rw [hl5] at hw5
  have hll5 : l5.length ≤ 110100 := by
    have := numsL_length [(s.es.length : Int)]
    simp at this
    rw [← hl5, List.length_append]; omega
  have HL5 := hid hl5
  have HI5 : Hid (IsW B b l5 w5 ∧ Below B w w5 ∧ KeptW b W w5) := ⟨hw5, hB5, hK5⟩
  clear hl5 x0 x1 x2 x3 x4 HP5 hk5 hb5 hw5
  obtain ⟨x0, x1, x2, x3, x4, _⟩ := five_cells (HBOX.out w5 hK5)
  clear hB5 hK5
  go_wp2_with fail
  go_loopw [28] (fun i wr => ∃ k : Nat, k ≤ s.es.length ∧ i = .int .i64 k ∧ Hid (IsW B b (l5 ++ numsL ((s.es.take k).flatMap (normK 11))) wr ∧ Below B w wr ∧ KeptW b W wr)) (fun i _ => s.es.length - (intOf i).toNat)
  case atStart => exact ⟨0, Nat.zero_le _, rfl, by rw [List.take_zero]; show IsW B b (l5 ++ []) w5; rw [List.append_nil]; exact HI5.out.1, HI5.out.2⟩
  case round =>
    obtain ⟨k, hk, rfl, HR⟩ := hrel
    by_cases hlt : k < s.es.length
    · have hltz : (k : Int) < (s.es.length : Int) := by omega
      obtain ⟨q, o, rfl, hq, q0, q1, q2, q3, q4, q5, q6, q7, q8, q9, q10⟩ := (HIN.out wr HR.out.2.1).rows.eleven hlt
      have hN : numsL ((s.es.take (k + 1)).flatMap (normK 11)) = numsL ((s.es.take k).flatMap (normK 11)) ++ numsL (normK 11 (rec s.es k)) := by rw [recs_take hlt, numsL_append]
      have hu : ∀ z ∈ normK 11 (rec s.es k), Sml z := fun z hz => by
        unfold normK at hz
        obtain ⟨j, hj, rfl⟩ := List.mem_map.1 hz
        exact HM.out.es _ (rec_mem hlt) j (List.mem_range.1 hj)
      have hlen : (l5 ++ numsL ((s.es.take k).flatMap (normK 11))).length ≤ 120000 := by
        have h1 := numsL_length ((s.es.take k).flatMap (normK 11))
        rw [flat_norm_length, List.length_take] at h1
        rw [List.length_append]
        omega
      generalize rec s.es k = u at q0 q1 q2 q3 q4 q5 q6 q7 q8 q9 q10 hN hu
      obtain ⟨X, hX⟩ : ∃ X, wr.alloc (.cells (unitC u) 121) = X := ⟨_, rfl⟩
      have hbX : Below wr.heap.size wr X := by rw [← hX]; exact (Below.refl _ _).alloc (Nat.le_refl _) _
      have hhX : X.heap[wr.heap.size]? = some (.cells (unitC u) 121) := by rw [← hX]; exact heap_alloc_new _ _
      have z0 : X.cell? ⟨wr.heap.size, 0, none⟩ = some (.int .i64 (fld u 0)) := cell_of_row X _ 0 _ _ _ hhX
      have z1 : X.cell? ⟨wr.heap.size, 1, none⟩ = some (.int .i64 (fld u 1)) := cell_of_row X _ 1 _ _ _ hhX
      have z2 : X.cell? ⟨wr.heap.size, 2, none⟩ = some (.int .i64 (fld u 2)) := cell_of_row X _ 2 _ _ _ hhX
      have z3 : X.cell? ⟨wr.heap.size, 3, none⟩ = some (.int .i64 (fld u 3)) := cell_of_row X _ 3 _ _ _ hhX
      have z4 : X.cell? ⟨wr.heap.size, 4, none⟩ = some (.int .i64 (fld u 4)) := cell_of_row X _ 4 _ _ _ hhX
      have z5 : X.cell? ⟨wr.heap.size, 5, none⟩ = some (.int .i64 (fld u 5)) := cell_of_row X _ 5 _ _ _ hhX
      have z6 : X.cell? ⟨wr.heap.size, 6, none⟩ = some (.int .i64 (fld u 6)) := cell_of_row X _ 6 _ _ _ hhX
      have z7 : X.cell? ⟨wr.heap.size, 7, none⟩ = some (.int .i64 (fld u 7)) := cell_of_row X _ 7 _ _ _ hhX
      have z8 : X.cell? ⟨wr.heap.size, 8, none⟩ = some (.int .i64 (fld u 8)) := cell_of_row X _ 8 _ _ _ hhX
      have z9 : X.cell? ⟨wr.heap.size, 9, none⟩ = some (.int .i64 (fld u 9)) := cell_of_row X _ 9 _ _ _ hhX
      have z10 : X.cell? ⟨wr.heap.size, 10, none⟩ = some (.int .i64 (fld u 10)) := cell_of_row X _ 10 _ _ _ hhX
      have hBX : Below B w X := HR.out.2.1.trans (hbX.mono (by have := HR.out.2.1.size; omega))
      have HPX := hid (put_fresh B b _ _ (normK 11 u) X (HR.out.1.below hbX) (nums_eleven X u 3) hu (by rw [normK_length]; omega) (by have := hBX.size; omega))
      have HBX := hid hBX
      have HKX : Hid (KeptW b W X) := kept_below HR.out.2.2 hbX
      have HN := hid hN
      rw [normK_length] at HPX
      clear hbX hhX hBX hN hu hlen HR
      go_wp2_with fail
      refine HPX.out.mono ?_
      rintro e w6 ⟨rfl, hw6, hb6, hk6⟩
      have HR6 : Hid (IsW B b (l5 ++ numsL ((s.es.take (k + 1)).flatMap (normK 11))) w6 ∧ Below B w w6 ∧ KeptW b W w6) := ⟨by rw [HN.out, ← List.append_assoc]; exact hw6, HBX.out.trans hb6, HKX.out.trans hk6⟩
      clear hw6 hb6 hk6 HPX z0 z1 z2 z3 z4 z5 z6 z7 z8 z9 z10 q0 q1 q2 q3 q4 q5 q6 q7 q8 q9 q10 hX
      go_wp2
      go_roundw
      case rel => exact ⟨k + 1, by omega, by go_num, HR6.out⟩
      case measure => simp [intOf]; omega
    · have hltz : ¬ (k : Int) < (s.es.length : Int) := by omega
      have e : s.es.take k = s.es := List.take_of_length_le (by omega)
      rw [e] at HR
      go_wp2
      go_end0
      have eN : l5 ++ numsL (s.es.flatMap (normK 11)) = l ++ numsL (newerN s) := by
        unfold newerN recsN
        simp only [numsL_append, numsL_cons, numsL_nil, List.append_assoc, List.nil_append]
        rw [← HL5.out, ← HL2.out]
        simp only [numsL_cons, numsL_nil, List.append_assoc, List.nil_append]
      exact ⟨rfl, by rw [← eN]; exact HR.out.1, HR.out.2.1, HKW.out.trans HR.out.2.2⟩
end Go.Proofs.YtcbalhicaipmlaaGreat
