/- The reference: a state is read out of a frame. -/
import Derived.Test.YtcbalhicaipmlaaGreatRWire6
import Derived.Test.YtcbalhicaipmlaaGreatRSnQ
import Derived.Test.YtcbalhicaipmlaaGreatRRnD
import Derived.Test.YtcbalhicaipmlaaGreatRSnU
import Derived.Test.YtcbalhicaipmlaaGreatRRlC
import Derived.Test.YtcbalhicaipmlaaGreatRTfT
namespace Go.Proofs.YtcbalhicaipmlaaGreat
open Go.RowKit
theorem bad_num {r : Rd} (h : r.e ≠ 0) : r.num.2.e = r.e := by rw [num_same h]
theorem bad_many {r : Rd} (h : r.e ≠ 0) : ∀ n, (r.many n).2.e = r.e
  | 0 => rfl
  | n + 1 => by
    rw [many_succ]
    have := bad_many h n
    rw [bad_num (by rw [this]; exact h), this]
theorem bad_upTo {r : Rd} {m : Int} (hm : 0 ≤ m) (h : r.e ≠ 0) : (r.upTo m).2.e = r.e := by
  unfold Rd.upTo
  rw [num_same h, if_neg (by simp only; omega)]
theorem bad_recs {r : Rd} {k : Nat} (h : r.e ≠ 0) : ∀ n, (Rd.recs k r n).2.e = r.e
  | 0 => rfl
  | n + 1 => by
    rw [recs_succ]
    have := bad_recs (k := k) h n
    rw [bad_many (by rw [this]; exact h), this]
theorem bad_elder {r : Rd} (h : r.e ≠ 0) : r.elder.2.e = r.e := by
  have h1 := bad_many h 4
  have h2 := bad_upTo (m := 200) (by decide) (r := (r.many 4).2) (by rw [h1]; exact h)
  have h3 := bad_many (r := ((r.many 4).2.upTo 200).2) (by rw [h2, h1]; exact h) ((r.many 4).2.upTo 200).1.toNat
  have h4 : ((r.many 4).2.row 200).2.e = r.e := by unfold Rd.row; rw [h3, h2, h1]
  have h5 := bad_upTo (m := 20) (by decide) (r := ((r.many 4).2.row 200).2) (by rw [h4]; exact h)
  have h6 := bad_recs (k := 10) (r := (((r.many 4).2.row 200).2.upTo 20).2) (by rw [h5, h4]; exact h) (((r.many 4).2.row 200).2.upTo 20).1.toNat
  unfold Rd.elder Rd.all
  rw [h6, h5, h4]
theorem bad_newer {r : Rd} (h : r.e ≠ 0) : r.newer.2.e = r.e := by
  have h4 := bad_many h 4
  have h5 := bad_upTo (m := 20) (by decide) (r := (r.many 4).2) (by rw [h4]; exact h)
  have h6 := bad_recs (k := 11) (r := ((r.many 4).2.upTo 20).2) (by rw [h5, h4]; exact h) ((r.many 4).2.upTo 20).1.toNat
  unfold Rd.newer Rd.all
  rw [h6, h5, h4]
theorem bad_over {r : Rd} {e : Nat} (h : r.e = e) (h0 : e ≠ 0) : r.over = e := by
  unfold Rd.over
  rw [if_neg (fun x => h0 (h.symm.trans x.1))]
  exact h
def tailE (R : St × Rd) : Nat × St := if R.2.over = 0 then (if checkE R.1.t R.1.g0 R.1.g1 R.1.nx R.1.free R.1.es = 0 then (0, R.1) else (checkE R.1.t R.1.g0 R.1.g1 R.1.nx R.1.free R.1.es, zeroS)) else (R.2.over, zeroS)
theorem rdE_alt (l : List UInt8) : rdE l = tailE (Rd.mk (openB 69 l) (openE 69 l)).elder := by
  unfold rdE tailE
  by_cases h : openE 69 l = 0
  · rw [if_pos h, h]
  · rw [if_neg h]
    have h1 := bad_over (bad_elder (r := ⟨openB 69 l, openE 69 l⟩) h) h
    rw [h1, if_neg h]
def tailN (R : St × Rd) : Nat × St := if R.2.over = 0 then (if ckN R.1 = 0 then (0, R.1) else (ckN R.1, zeroS)) else (R.2.over, zeroS)
theorem rdN_alt (l : List UInt8) : rdN l = tailN (Rd.mk (openB 78 l) (openE 78 l)).newer := by
  unfold rdN tailN
  by_cases h : openE 78 l = 0
  · rw [if_pos h, h]
  · rw [if_neg h]
    have h1 := bad_over (bad_newer (r := ⟨openB 78 l, openE 78 l⟩) h) h
    rw [h1, if_neg h]
theorem elder_few (r : Rd) : r.elder.1.free.length ≤ 200 ∧ r.elder.1.es.length ≤ 20 := by
  have h1 := upTo_le (r.many 4).2 (m := 200) (by decide)
  have h2 := upTo_le ((r.many 4).2.row 200).2 (m := 20) (by decide)
  unfold Rd.elder Rd.all
  simp only
  rw [recs_length]
  unfold Rd.row at h2 ⊢
  rw [many_length]
  omega
theorem newer_few (r : Rd) : r.newer.1.es.length ≤ 20 := by
  have h2 := upTo_le (r.many 4).2 (m := 20) (by decide)
  unfold Rd.newer Rd.all
  simp only
  rw [recs_length]
  omega
def ElderRP (R : Nat × St) (w : World) (e : Ending) (w' : World) : Prop := ∃ fa ea fc ec, e = .returned (.tuple #[elderV R.2.t R.2.g0 R.2.g1 R.2.nx (.slice fa R.2.free.length fc) (.slice ea R.2.es.length ec), .int .i64 R.1]) ∧ InE w' R.2 fa ea fc ec ∧ Below w.heap.size w w'
set_option maxHeartbeats 8000000 in
set_option maxRecDepth 100000 in
theorem elderRead_calls (l : List UInt8) (hl : l.length ≤ 10000) (w : World) :
    Calls Tryz.prog 23 #[.string ⟨l.toArray⟩] w (ElderRP (rdE l) w) := by
  obtain ⟨W, hW⟩ : ∃ W, w.alloc (.cells #[.int .i64 0, .int .i64 0, .int .i64 0, .int .i64 0, .slice none 0 0, .slice none 0 0] 26) = W := ⟨_, rfl⟩
  have hbW : Below w.heap.size w W := by rw [← hW]; exact (Below.refl _ w).alloc (Nat.le_refl _) _
  have hsW : W.heap.size = w.heap.size + 1 := by rw [← hW]; simp [go_sem]
  have hh0 : W.heap[w.heap.size]? = some (.cells #[.int .i64 0, .int .i64 0, .int .i64 0, .int .i64 0, .slice none 0 0, .slice none 0 0] 26) := by rw [← hW]; exact heap_alloc_new _ _
  have HC := hid (begun_calls 69 l hl W)
  rw [rdE_alt]
  obtain ⟨r, hr⟩ : ∃ r, Rd.mk (openB 69 l) (openE 69 l) = r := ⟨_, rfl⟩
  rw [hr] at HC ⊢
  have hfew := elder_few r
  have HBW := hid hbW
  have HSW := hid hsW
  have H0 := hid hh0
  clear hr hbW hsW hh0 hl
  go_enter Tryz.func23, Tryz.ntmps23
  go_wp2_with fail
  refine HC.out.mono ?_
  rintro e w2 ⟨p, rfl, hpp, hn2, hb2⟩
  have HB2 := hid hb2
  have HCE := hid (nmElder_calls p r w2 hn2)
  have hs2 := hb2.size
  have hsW := HSW.out
  clear hn2 hb2 HC hW
  go_wp2_with fail
  refine HCE.out.mono ?_
  rintro e w3 ⟨fa, ea, fc, ec, rfl, hi3, hn3, hk3, hff, hfe⟩
  obtain ⟨S, hS⟩ : ∃ S, r.elder.1 = S := ⟨_, rfl⟩
  obtain ⟨E, hE⟩ : ∃ E, r.elder.2 = E := ⟨_, rfl⟩
  have hR : r.elder = (S, E) := by rw [← hS, ← hE]
  have HY : Hid (tailE r.elder = if E.over = 0 then (if checkE S.t S.g0 S.g1 S.nx S.free S.es = 0 then (0, S) else (checkE S.t S.g0 S.g1 S.nx S.free S.es, zeroS)) else (E.over, zeroS)) := by show _ = _; rw [hR]; rfl
  rw [hS] at hi3 hfew ⊢
  rw [hE] at hn3
  obtain ⟨X, hX⟩ : ∃ X, w3.alloc (.cells (elC S.t S.g0 S.g1 S.nx (.slice fa S.free.length fc) (.slice ea S.es.length ec)) 26) = X := ⟨_, rfl⟩
  have hbX : Below w3.heap.size w3 X := by rw [← hX]; exact (Below.refl _ _).alloc (Nat.le_refl _) _
  have hhX : X.heap[w3.heap.size]? = some (.cells (elC S.t S.g0 S.g1 S.nx (.slice fa S.free.length fc) (.slice ea S.es.length ec)) 26) := by rw [← hX]; exact heap_alloc_new _ _
  have hs3 := hk3.1.size
  have h03 := (hk3.2 w.heap.size (by omega) (fun e => by have e' := Option.some.inj e; omega)).trans ((HB2.out.block w.heap.size (by omega)).trans H0.out)
  have H0X : Hid (∀ wx, Below X.heap.size X wx → wx.heap[w.heap.size]? = some (.cells #[.int .i64 0, .int .i64 0, .int .i64 0, .int .i64 0, .slice none 0 0, .slice none 0 0] 26)) := fun wx hx => (hx.block _ (by have := hbX.size; omega)).trans ((hbX.block w.heap.size (by omega)).trans h03)
  have HHX : Hid (∀ wx, Below X.heap.size X wx → wx.heap[w3.heap.size]? = some (.cells (elC S.t S.g0 S.g1 S.nx (.slice fa S.free.length fc) (.slice ea S.es.length ec)) 26)) := fun wx hx => (hx.block _ (Array.getElem?_eq_some_iff.1 hhX).1).trans hhX
  have HBX : Hid (∀ wx, Below X.heap.size X wx → Below w.heap.size w wx) := fun wx hx => by
    have h1 : Below W.heap.size W w3 := HB2.out.trans (hk3.base (B := W.heap.size) (by omega) (fun k e => by have e' := Option.some.inj e; omega))
    have h2 : Below w.heap.size w X := (HBW.out.trans (h1.mono (by omega))).trans (hbX.mono (by omega))
    exact h2.trans (hx.mono h2.size)
  have HIX := hid (hi3.below hbX)
  have HOV := hid (over_calls p E X (hn3.below hbX))
  have HFF : Hid (Frsh (w.heap.size + 1) fa) := frsh_mono hff (by omega)
  have HFE : Hid (Frsh (w.heap.size + 1) ea) := frsh_mono hfe (by omega)
  have HXX := hid hX
  clear hX hbX hhX hs3 h03 hi3 hn3 hk3 HCE hS hE hR hff hfe
  go_upto_region 3 with fail
  rw [HXX.out]
  clear HXX
  go_wp2_with fail
  refine HOV.out.mono ?_
  rintro e q1 ⟨rfl, hq⟩
  rw [hq]
  clear hq q1 HOV
  by_cases hov : E.over = 0
  case neg =>
    rw [if_neg hov] at HY
    obtain ⟨q0, q1, q2, q3, q4, q5⟩ := elder_cells (H0X.out X (Below.refl _ _))
    have qf := fun j => frozen_of_row X w.heap.size j _ _ (H0X.out X (Below.refl _ _))
    have hz0 : ((E.over : Int) == 0) = false := by rw [beq_eq_false_iff_ne]; omega
    have hz1 : 0 < E.over := by omega
    have hz2 : (0 : Int) < (E.over : Int) := by omega
    have HF := hid (HBX.out X (Below.refl _ _))
    clear hov
    go_wp2
    rw [HY.out]
    refine bodyPost_ret (v := .tuple #[elderV 0 0 0 0 (.slice none 0 0) (.slice none 0 0), .int .i64 E.over]) (by simp [results, Tryz.results23, go_sem, q0, q1, q2, q3, q4, q5]) rfl ⟨none, none, 0, 0, rfl, inE_zero _, ?_⟩
    exact (Below.setCell (Below.setCell (Below.setCell (Below.setCell (Below.setCell (Below.setCell HF.out (p := ⟨w.heap.size, 0, none⟩) (Nat.le_refl _) _) (p := ⟨w.heap.size, 1, none⟩) (Nat.le_refl _) _) (p := ⟨w.heap.size, 2, none⟩) (Nat.le_refl _) _) (p := ⟨w.heap.size, 3, none⟩) (Nat.le_refl _) _) (p := ⟨w.heap.size, 4, none⟩) (Nat.le_refl _) _) (p := ⟨w.heap.size, 5, none⟩) (Nat.le_refl _) _)
  rw [if_pos hov] at HY
  have hz0 : ((E.over : Int) == 0) = true := by rw [hov]; rfl
  obtain ⟨z0, z1, z2, z3, z4, z5⟩ := elder_cells (HHX.out X (Below.refl _ _))
  obtain ⟨c, hc⟩ : ∃ c, checkE S.t S.g0 S.g1 S.nx S.free S.es = c := ⟨_, rfl⟩
  rw [hc] at HY
  have HOF : Hid (Calls Tryz.prog 34 #[elderV S.t S.g0 S.g1 S.nx (.slice fa S.free.length fc) (.slice ea S.es.length ec)] X fun e w' => ∃ p, e = .returned (.pointer (some ⟨p, 0, none⟩)) ∧ GrE X.heap.size w' p false (upS S) ∧ Below X.heap.size X w') := by
    have hi := HIX.out
    have := ofElder_calls S.t S.g0 S.g1 S.nx S.free fa ea fc ec S.es X (by omega) (by omega) hi.rows hi.nums hi.fn
    rw [st0_up hi.born] at this
    exact this
  have HFA : Hid (∀ base wx p, GrE base wx p false (upS S) → Calls Tryz.prog 35 #[.pointer (some ⟨p, 0, none⟩)] wx fun e w' => e = .returned (.int .i64 c) ∧ Below wx.heap.size wx w') := fun base wx p hg => by
    have := fault_calls base p false (upS S) wx hg
    rw [faultU S, hc] at this
    exact this
  rw [hov] at hz0 ⊢
  clear hov hc
  go_wp2_with fail
  refine HOF.out.mono ?_
  rintro e w6 ⟨g, rfl, hg6, hb6⟩
  have HF6 := hid (HFA.out _ w6 g hg6)
  have HB6 := hid hb6
  clear hg6 hb6 HOF HFA z0 z1 z2 z3 z4 z5
  go_wp2_with fail
  refine HF6.out.mono ?_
  rintro e w7 ⟨rfl, hb7⟩
  have HB7 : Hid (Below X.heap.size X w7) := HB6.out.trans (hb7.mono HB6.out.size)
  clear hb7 HF6 HB6
  obtain ⟨q0, q1, q2, q3, q4, q5⟩ := elder_cells (H0X.out w7 HB7.out)
  have qf := fun j => frozen_of_row w7 w.heap.size j _ _ (H0X.out w7 HB7.out)
  have HF := hid (HBX.out w7 HB7.out)
  by_cases hc0 : c = 0
  case neg =>
    rw [if_neg hc0] at HY
    have hz1 : 0 < c := by omega
    have hz2 : (0 : Int) < (c : Int) := by omega
    clear hc0
    go_wp2
    rw [HY.out]
    refine bodyPost_ret (v := .tuple #[elderV 0 0 0 0 (.slice none 0 0) (.slice none 0 0), .int .i64 c]) (by simp [results, Tryz.results23, go_sem, q0, q1, q2, q3, q4, q5]) rfl ⟨none, none, 0, 0, rfl, inE_zero _, ?_⟩
    exact (Below.setCell (Below.setCell (Below.setCell (Below.setCell (Below.setCell (Below.setCell HF.out (p := ⟨w.heap.size, 0, none⟩) (Nat.le_refl _) _) (p := ⟨w.heap.size, 1, none⟩) (Nat.le_refl _) _) (p := ⟨w.heap.size, 2, none⟩) (Nat.le_refl _) _) (p := ⟨w.heap.size, 3, none⟩) (Nat.le_refl _) _) (p := ⟨w.heap.size, 4, none⟩) (Nat.le_refl _) _) (p := ⟨w.heap.size, 5, none⟩) (Nat.le_refl _) _)
  rw [if_pos hc0] at HY
  subst hc0
  obtain ⟨z0, z1, z2, z3, z4, z5⟩ := elder_cells (HHX.out w7 HB7.out)
  have HI7 := hid (HIX.out.below HB7.out)
  go_wp2
  rw [HY.out]
  refine bodyPost_ret (v := .tuple #[elderV S.t S.g0 S.g1 S.nx (.slice fa S.free.length fc) (.slice ea S.es.length ec), .int .i64 0]) (by simp [results, Tryz.results23, go_sem, q0, q1, q2, q3, q4, q5]) rfl ⟨fa, ea, fc, ec, rfl, ?_, ?_⟩
  · refine ⟨HI7.out.fn, HI7.out.en, HI7.out.cap, recs_blk HI7.out.rows (fun b o e => setS6_heap ?_), nums_blk HI7.out.nums (fun b o e => setS6_heap ?_), HI7.out.wf, HI7.out.born⟩
    · have := HFE.out b o e; omega
    · have := HFF.out b o e; omega
  · exact (Below.setCell (Below.setCell (Below.setCell (Below.setCell (Below.setCell (Below.setCell HF.out (p := ⟨w.heap.size, 0, none⟩) (Nat.le_refl _) _) (p := ⟨w.heap.size, 1, none⟩) (Nat.le_refl _) _) (p := ⟨w.heap.size, 2, none⟩) (Nat.le_refl _) _) (p := ⟨w.heap.size, 3, none⟩) (Nat.le_refl _) _) (p := ⟨w.heap.size, 4, none⟩) (Nat.le_refl _) _) (p := ⟨w.heap.size, 5, none⟩) (Nat.le_refl _) _)
def NewerRP (R : Nat × St) (w : World) (e : Ending) (w' : World) : Prop := ∃ ea ec, e = .returned (.tuple #[newerV R.2.t R.2.g0 R.2.g1 R.2.nx (.slice ea R.2.es.length ec), .int .i64 R.1]) ∧ InW w' R.2 ea ec ∧ Below w.heap.size w w'
set_option maxHeartbeats 8000000 in
set_option maxRecDepth 100000 in
theorem newerRead_calls (l : List UInt8) (hl : l.length ≤ 10000) (w : World) :
    Calls Tryz.prog 25 #[.string ⟨l.toArray⟩] w (NewerRP (rdN l) w) := by
  obtain ⟨W, hW⟩ : ∃ W, w.alloc (.cells #[.int .i64 0, .int .i64 0, .int .i64 0, .int .i64 0, .slice none 0 0] 32) = W := ⟨_, rfl⟩
  have hbW : Below w.heap.size w W := by rw [← hW]; exact (Below.refl _ w).alloc (Nat.le_refl _) _
  have hsW : W.heap.size = w.heap.size + 1 := by rw [← hW]; simp [go_sem]
  have hh0 : W.heap[w.heap.size]? = some (.cells #[.int .i64 0, .int .i64 0, .int .i64 0, .int .i64 0, .slice none 0 0] 32) := by rw [← hW]; exact heap_alloc_new _ _
  have HC := hid (begun_calls 78 l hl W)
  rw [rdN_alt]
  obtain ⟨r, hr⟩ : ∃ r, Rd.mk (openB 78 l) (openE 78 l) = r := ⟨_, rfl⟩
  rw [hr] at HC ⊢
  have hfew := newer_few r
  have HBW := hid hbW
  have HSW := hid hsW
  have H0 := hid hh0
  clear hr hbW hsW hh0 hl
  go_enter Tryz.func25, Tryz.ntmps25
  go_wp2_with fail
  refine HC.out.mono ?_
  rintro e w2 ⟨p, rfl, hpp, hn2, hb2⟩
  have HB2 := hid hb2
  have HCE := hid (nmNewer_calls p r w2 hn2)
  have hs2 := hb2.size
  have hsW := HSW.out
  clear hn2 hb2 HC hW
  go_wp2_with fail
  refine HCE.out.mono ?_
  rintro e w3 ⟨ea, ec, rfl, hi3, hn3, hk3, hfe⟩
  obtain ⟨S, hS⟩ : ∃ S, r.newer.1 = S := ⟨_, rfl⟩
  obtain ⟨E, hE⟩ : ∃ E, r.newer.2 = E := ⟨_, rfl⟩
  have hR : r.newer = (S, E) := by rw [← hS, ← hE]
  have HY : Hid (tailN r.newer = if E.over = 0 then (if ckN S = 0 then (0, S) else (ckN S, zeroS)) else (E.over, zeroS)) := by show _ = _; rw [hR]; rfl
  rw [hS] at hi3 hfew ⊢
  rw [hE] at hn3
  obtain ⟨X, hX⟩ : ∃ X, w3.alloc (.cells (newerC S.t S.g0 S.g1 S.nx (.slice ea S.es.length ec)) 32) = X := ⟨_, rfl⟩
  have hbX : Below w3.heap.size w3 X := by rw [← hX]; exact (Below.refl _ _).alloc (Nat.le_refl _) _
  have hhX : X.heap[w3.heap.size]? = some (.cells (newerC S.t S.g0 S.g1 S.nx (.slice ea S.es.length ec)) 32) := by rw [← hX]; exact heap_alloc_new _ _
  have hs3 := hk3.1.size
  have h03 := (hk3.2 w.heap.size (by omega) (fun e => by have e' := Option.some.inj e; omega)).trans ((HB2.out.block w.heap.size (by omega)).trans H0.out)
  have H0X : Hid (∀ wx, Below X.heap.size X wx → wx.heap[w.heap.size]? = some (.cells #[.int .i64 0, .int .i64 0, .int .i64 0, .int .i64 0, .slice none 0 0] 32)) := fun wx hx => (hx.block _ (by have := hbX.size; omega)).trans ((hbX.block w.heap.size (by omega)).trans h03)
  have HHX : Hid (∀ wx, Below X.heap.size X wx → wx.heap[w3.heap.size]? = some (.cells (newerC S.t S.g0 S.g1 S.nx (.slice ea S.es.length ec)) 32)) := fun wx hx => (hx.block _ (Array.getElem?_eq_some_iff.1 hhX).1).trans hhX
  have HBX : Hid (∀ wx, Below X.heap.size X wx → Below w.heap.size w wx) := fun wx hx => by
    have h1 : Below W.heap.size W w3 := HB2.out.trans (hk3.base (B := W.heap.size) (by omega) (fun k e => by have e' := Option.some.inj e; omega))
    have h2 : Below w.heap.size w X := (HBW.out.trans (h1.mono (by omega))).trans (hbX.mono (by omega))
    exact h2.trans (hx.mono h2.size)
  have HIX := hid (hi3.below hbX)
  have HOV := hid (over_calls p E X (hn3.below hbX))
  have HFE : Hid (Frsh (w.heap.size + 1) ea) := frsh_mono hfe (by omega)
  have HXX := hid hX
  clear hX hbX hhX hs3 h03 hi3 hn3 hk3 HCE hS hE hR hfe
  go_upto_region 3 with fail
  rw [HXX.out]
  clear HXX
  go_wp2_with fail
  refine HOV.out.mono ?_
  rintro e q1 ⟨rfl, hq⟩
  rw [hq]
  clear hq q1 HOV
  by_cases hov : E.over = 0
  case neg =>
    rw [if_neg hov] at HY
    obtain ⟨q0, q1, q2, q3, q4, _⟩ := five_cells (H0X.out X (Below.refl _ _))
    have qf := fun j => frozen_of_row X w.heap.size j _ _ (H0X.out X (Below.refl _ _))
    have hz0 : ((E.over : Int) == 0) = false := by rw [beq_eq_false_iff_ne]; omega
    have hz1 : 0 < E.over := by omega
    have hz2 : (0 : Int) < (E.over : Int) := by omega
    have HF := hid (HBX.out X (Below.refl _ _))
    clear hov
    go_wp2
    rw [HY.out]
    refine bodyPost_ret (v := .tuple #[newerV 0 0 0 0 (.slice none 0 0), .int .i64 E.over]) (by simp [results, Tryz.results25, go_sem, q0, q1, q2, q3, q4]) rfl ⟨none, 0, rfl, inW_zero _, ?_⟩
    exact (Below.setCell (Below.setCell (Below.setCell (Below.setCell (Below.setCell HF.out (p := ⟨w.heap.size, 0, none⟩) (Nat.le_refl _) _) (p := ⟨w.heap.size, 1, none⟩) (Nat.le_refl _) _) (p := ⟨w.heap.size, 2, none⟩) (Nat.le_refl _) _) (p := ⟨w.heap.size, 3, none⟩) (Nat.le_refl _) _) (p := ⟨w.heap.size, 4, none⟩) (Nat.le_refl _) _)
  rw [if_pos hov] at HY
  have hz0 : ((E.over : Int) == 0) = true := by rw [hov]; rfl
  obtain ⟨z0, z1, z2, z3, z4, _⟩ := five_cells (HHX.out X (Below.refl _ _))
  obtain ⟨c, hc⟩ : ∃ c, ckN S = c := ⟨_, rfl⟩
  rw [hc] at HY
  have HOF : Hid (Calls Tryz.prog 46 #[newerV S.t S.g0 S.g1 S.nx (.slice ea S.es.length ec)] X fun e w' => ∃ p, e = .returned (.pointer (some ⟨p, 0, none⟩)) ∧ GrE X.heap.size w' p true S ∧ Below X.heap.size X w') := by
    have hi := HIX.out
    have := ofNewer_calls S.t S.g0 S.g1 S.nx ea ec S.es X (by omega) hi.rows hi.un
    rw [st0_N hi.fr hi.born] at this
    exact this
  have HFA : Hid (∀ base wx p, GrE base wx p true S → Calls Tryz.prog 35 #[.pointer (some ⟨p, 0, none⟩)] wx fun e w' => e = .returned (.int .i64 c) ∧ Below wx.heap.size wx w') := fun base wx p hg => by
    have := fault_calls base p true S wx hg
    rw [faultN S HIX.out.fr, show checkN S.t S.g0 S.g1 S.nx S.es = ckN S from rfl, hc] at this
    exact this
  rw [hov] at hz0 ⊢
  clear hov hc
  go_wp2_with fail
  refine HOF.out.mono ?_
  rintro e w6 ⟨g, rfl, hg6, hb6⟩
  have HF6 := hid (HFA.out _ w6 g hg6)
  have HB6 := hid hb6
  clear hg6 hb6 HOF HFA z0 z1 z2 z3 z4
  go_wp2_with fail
  refine HF6.out.mono ?_
  rintro e w7 ⟨rfl, hb7⟩
  have HB7 : Hid (Below X.heap.size X w7) := HB6.out.trans (hb7.mono HB6.out.size)
  clear hb7 HF6 HB6
  obtain ⟨q0, q1, q2, q3, q4, _⟩ := five_cells (H0X.out w7 HB7.out)
  have qf := fun j => frozen_of_row w7 w.heap.size j _ _ (H0X.out w7 HB7.out)
  have HF := hid (HBX.out w7 HB7.out)
  by_cases hc0 : c = 0
  case neg =>
    rw [if_neg hc0] at HY
    have hz1 : 0 < c := by omega
    have hz2 : (0 : Int) < (c : Int) := by omega
    clear hc0
    go_wp2
    rw [HY.out]
    refine bodyPost_ret (v := .tuple #[newerV 0 0 0 0 (.slice none 0 0), .int .i64 c]) (by simp [results, Tryz.results25, go_sem, q0, q1, q2, q3, q4]) rfl ⟨none, 0, rfl, inW_zero _, ?_⟩
    exact (Below.setCell (Below.setCell (Below.setCell (Below.setCell (Below.setCell HF.out (p := ⟨w.heap.size, 0, none⟩) (Nat.le_refl _) _) (p := ⟨w.heap.size, 1, none⟩) (Nat.le_refl _) _) (p := ⟨w.heap.size, 2, none⟩) (Nat.le_refl _) _) (p := ⟨w.heap.size, 3, none⟩) (Nat.le_refl _) _) (p := ⟨w.heap.size, 4, none⟩) (Nat.le_refl _) _)
  rw [if_pos hc0] at HY
  subst hc0
  obtain ⟨z0, z1, z2, z3, z4, _⟩ := five_cells (HHX.out w7 HB7.out)
  have HI7 := hid (HIX.out.below HB7.out)
  go_wp2
  rw [HY.out]
  refine bodyPost_ret (v := .tuple #[newerV S.t S.g0 S.g1 S.nx (.slice ea S.es.length ec), .int .i64 0]) (by simp [results, Tryz.results25, go_sem, q0, q1, q2, q3, q4]) rfl ⟨ea, ec, rfl, ?_, ?_⟩
  · refine ⟨HI7.out.un, HI7.out.cap, recs_blk HI7.out.rows (fun b o e => setS5_heap ?_), HI7.out.fr, HI7.out.born⟩
    have := HFE.out b o e; omega
  · exact (Below.setCell (Below.setCell (Below.setCell (Below.setCell (Below.setCell HF.out (p := ⟨w.heap.size, 0, none⟩) (Nat.le_refl _) _) (p := ⟨w.heap.size, 1, none⟩) (Nat.le_refl _) _) (p := ⟨w.heap.size, 2, none⟩) (Nat.le_refl _) _) (p := ⟨w.heap.size, 3, none⟩) (Nat.le_refl _) _) (p := ⟨w.heap.size, 4, none⟩) (Nat.le_refl _) _)
end Go.Proofs.YtcbalhicaipmlaaGreat
namespace Go.Proofs.YtcbalhicaipmlaaGreat
open Go.RowKit
structure MidT (X : World) (p T : Nat) (tt : TypeId) (cs : Array Value) (r : Rd) (wr : World) : Prop where
  rd : NmAt p r wr
  bx : wr.heap[T]? = some (.cells cs tt)
  be : Below 0 X wr
  kp : ∀ k, k < X.heap.size → k ≠ p → k ≠ T → wr.heap[k]? = X.heap[k]?
theorem MidT.call {X : World} {p T : Nat} {tt : TypeId} {cs : Array Value} {r r' : Rd} {wr wx : World} (h : MidT X p T tt cs r wr) (hr : NmAt p r' wx) (hk : Keep wr (some p) wx) (hpt : p ≠ T) : MidT X p T tt cs r' wx :=
  ⟨hr, (hk.2 T (Array.getElem?_eq_some_iff.1 h.bx).1 (fun e => hpt (Option.some.inj e))).trans h.bx, h.be.trans hk.1, fun k hk' hp hT => (hk.2 k (Nat.lt_of_lt_of_le hk' h.be.size) (fun e => hp (Option.some.inj e).symm)).trans (h.kp k hk' hp hT)⟩
theorem MidT.grown {X : World} {p T : Nat} {tt : TypeId} {cs : Array Value} {r : Rd} {wr wx : World} {ob : Option Nat} (h : MidT X p T tt cs r wr) (hg : wr.grownBy wx ob) (hn : ∀ k, ob = some k → X.heap.size ≤ k) (hp : p < X.heap.size) (hT : T < X.heap.size) : MidT X p T tt cs r wx :=
  ⟨nm_grown h.rd hg (fun e => by have := hn p e; omega), (hg.block _ (Array.getElem?_eq_some_iff.1 h.bx).1 (fun e => by have := hn _ e.symm; omega)).trans h.bx, h.be.trans ⟨hg.os, hg.tape, hg.output, hg.size, fun k hk => absurd hk (Nat.not_lt_zero _)⟩, fun k hk hp' hT' => (hg.block k (Nat.lt_of_lt_of_le hk h.be.size) (fun e => by have := hn k e.symm; omega)).trans (h.kp k hk hp' hT')⟩
theorem MidT.below {X : World} {p T : Nat} {tt : TypeId} {cs : Array Value} {r : Rd} {wr wx : World} (h : MidT X p T tt cs r wr) (hb : Below wr.heap.size wr wx) : MidT X p T tt cs r wx :=
  ⟨h.rd.below hb, (hb.block _ (Array.getElem?_eq_some_iff.1 h.bx).1).trans h.bx, h.be.trans (hb.mono (Nat.zero_le _)), fun k hk hp hT => (hb.block k (Nat.lt_of_lt_of_le hk h.be.size)).trans (h.kp k hk hp hT)⟩
theorem MidT.set {X : World} {p T : Nat} {tt : TypeId} {cs cs' : Array Value} {r : Rd} {wr : World} {j : Nat} {v : Value} (h : MidT X p T tt cs r wr) (hpt : p ≠ T) (hc : (wr.setCell ⟨T, j, none⟩ v).heap[T]? = some (.cells cs' tt)) : MidT X p T tt cs' r (wr.setCell ⟨T, j, none⟩ v) :=
  ⟨nm_off h.rd hpt, hc, h.be.setCell (p := ⟨T, j, none⟩) (Nat.zero_le _) v, fun k hk hp hT => (heap_setCell_other wr ⟨T, j, none⟩ k v hT).trans (h.kp k hk hp hT)⟩
theorem tksR_end {B : Nat} {w w' : World} {ta : Option Addr} {n tc : Nat} {ls : List (List (List Int))} (h : TksR B w (.slice ta n tc) ls) (hs : w.heap.size ≤ w'.heap.size) (hk : ∀ k, B ≤ k → k < w.heap.size → w'.heap[k]? = w.heap[k]?) : Tks w' ta ls := by
  obtain ⟨ta', tc', hv, _, hh, _, _⟩ := (h.same hs hk).tks
  cases hv
  exact hh
theorem tksRO_end {B : Nat} {w w' : World} {ta : Option Addr} {n tc : Nat} {ls : List (List (List Int))} (h : TksRO B w (.slice ta n tc) ls) (hs : w.heap.size ≤ w'.heap.size) (hk : ∀ k, B ≤ k → k < w.heap.size → w'.heap[k]? = w.heap[k]?) : TksN w' ta ls := by
  obtain ⟨ta', tc', hv, _, hh, _, _⟩ := (h.same hs hk).tks
  cases hv
  exact hh
theorem bad_ticks {r : Rd} {k : Nat} (h : r.e ≠ 0) : ∀ n, (Rd.ticks k r n).2.e = r.e
  | 0 => rfl
  | n + 1 => by
    rw [ticks_succ]
    have h1 := bad_ticks (k := k) h n
    have h2 := bad_upTo (m := 8) (by decide) (r := (Rd.ticks k r n).2) (by rw [h1]; exact h)
    have h3 := bad_recs (k := k) (r := ((Rd.ticks k r n).2.upTo 8).2) (by rw [h2, h1]; exact h) ((Rd.ticks k r n).2.upTo 8).1.toNat
    show (Rd.tick k (Rd.ticks k r n).2).2.e = r.e
    unfold Rd.tick
    rw [h3, h2, h1]
theorem bad_tape {r : Rd} {k : Nat} (h : r.e ≠ 0) : (Rd.tape k r).2.e = r.e := by
  have h2 := bad_upTo (m := 60) (by decide) h
  have h3 := bad_ticks (k := k) (r := (r.upTo 60).2) (by rw [h2]; exact h) (r.upTo 60).1.toNat
  unfold Rd.tape
  rw [h3, h2]
def lastT (R : St × Rd) : Nat × St × List (List (List Int)) := if (Rd.tape 7 R.2).2.over = 0 then (if ckTape R.1 (Rd.tape 7 R.2).1 = 0 then (0, R.1, (Rd.tape 7 R.2).1) else (ckTape R.1 (Rd.tape 7 R.2).1, zeroS, [])) else ((Rd.tape 7 R.2).2.over, zeroS, [])
theorem rdT_alt (l : List UInt8) : rdT l = lastT (Rd.mk (openB 84 l) (openE 84 l)).elder := by
  unfold rdT lastT ckTape
  by_cases h : openE 84 l = 0
  · rw [if_pos h, h]
  · rw [if_neg h]
    have h0 := bad_elder (r := ⟨openB 84 l, openE 84 l⟩) h
    have h1 := bad_over (bad_tape (k := 7) (r := (Rd.mk (openB 84 l) (openE 84 l)).elder.2) (by rw [h0]; exact h)) (by rw [h0]; exact h)
    rw [h1, h0, if_neg h]
def lastR (R : St × Rd) : Nat × St × List (List (List Int)) := if (Rd.tape 6 R.2).2.over = 0 then (if ckReel R.1 (Rd.tape 6 R.2).1 = 0 then (0, R.1, (Rd.tape 6 R.2).1) else (ckReel R.1 (Rd.tape 6 R.2).1, zeroS, [])) else ((Rd.tape 6 R.2).2.over, zeroS, [])
theorem rdR_alt (l : List UInt8) : rdR l = lastR (Rd.mk (openB 82 l) (openE 82 l)).newer := by
  unfold rdR lastR ckReel
  by_cases h : openE 82 l = 0
  · rw [if_pos h, h]
  · rw [if_neg h]
    have h0 := bad_newer (r := ⟨openB 82 l, openE 82 l⟩) h
    have h1 := bad_over (bad_tape (k := 6) (r := (Rd.mk (openB 82 l) (openE 82 l)).newer.2) (by rw [h0]; exact h)) (by rw [h0]; exact h)
    rw [h1, h0, if_neg h]
end Go.Proofs.YtcbalhicaipmlaaGreat
