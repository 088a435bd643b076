/- TopElder: the walk. -/
import Derived.Test.YtgiieepfhohmhaaPlyAA
import Derived.Test.YtgiieepfhohmhaaElA
namespace Go.Proofs.Ytgiieepfhohmhaa
open Go.RowKit Go.Maps

theorem gold_same (w : World) : (Op.equalIn 10000 56 (.agg #[.int .i64 0, .int .i64 0]) (.agg #[.int .i64 0, .int .i64 0])).run Try.prog w = .ok true w := by kernel_rfl

set_option maxRecDepth 100000 in
set_option maxHeartbeats 1000000 in
theorem sameNumbers_none (w : World) : Calls Try.prog 46 #[.slice none 0 0, .slice none 0 0] w fun e w' => e = .returned (.bool true) ∧ w' = w := by
  go_enter Try.func46, Try.ntmps46
  go_wp2_with fail
  go_loopw [5] (fun i wr => i = .int .i64 0 ∧ wr = w) (fun _ _ => 0)
  case atStart => exact ⟨rfl, rfl⟩
  case round =>
    obtain ⟨rfl, rfl⟩ := hrel
    go_wp2
    go_ret
    exact ⟨rfl, rfl⟩

set_option maxRecDepth 100000 in
set_option maxHeartbeats 4000000 in
theorem sameElder_zero (w : World) : Calls Try.prog 45 #[zeroE, zeroE] w fun e w' => e = .returned (.bool true) ∧ Below w.heap.size w w' := by
  have hb : Below w.heap.size w ((w.alloc (.cells #[.int .i64 0, .int .i64 0, .int .i64 0, .int .i64 0, .slice none 0 0, .slice none 0 0] 60)).alloc (.cells #[.int .i64 0, .int .i64 0, .int .i64 0, .int .i64 0, .slice none 0 0, .slice none 0 0] 60)) := ((Below.refl _ w).alloc (Nat.le_refl _) _).alloc (by simp [go_sem]) _
  have HB := hid hb
  clear hb
  have hgs := gold_same
  go_enter Try.func45, Try.ntmps45
  go_wp2_with (first | (go_at_call 46; refine (sameNumbers_none _).mono ?_; rintro e w' ⟨rfl, rfl⟩))
  obtain ⟨W, hW⟩ : ∃ W, (w.alloc (.cells #[.int .i64 0, .int .i64 0, .int .i64 0, .int .i64 0, .slice none 0 0, .slice none 0 0] 60)).alloc (.cells #[.int .i64 0, .int .i64 0, .int .i64 0, .int .i64 0, .slice none 0 0, .slice none 0 0] 60) = W := ⟨_, rfl⟩
  have c5 : W.cell? ⟨w.heap.size, 5, none⟩ = some (.slice none 0 0) := by rw [← hW]; simp [go_sem]
  rw [hW] at HB ⊢
  go_loopw [5] (fun i wr => i = .int .i64 0 ∧ wr = W) (fun _ _ => 0)
  case atStart => exact ⟨rfl, rfl⟩
  case round =>
    obtain ⟨rfl, rfl⟩ := hrel
    clear hW
    go_wp2
    go_ret
    exact ⟨rfl, HB.out⟩

set_option maxRecDepth 100000 in
set_option maxHeartbeats 8000000 in
theorem topElder_bad (s : St) (fa ea la : Option Addr) (fc ec lc : Nat) (l : List (List Int)) (w : World) (c : Nat) (hc : c ≠ 0) (hstep : ∀ W, Below w.heap.size w W → Calls Try.prog 40 #[elderV s.t s.g0 s.g1 s.nx (.slice fa s.free.length fc) (.slice ea s.es.length ec), .slice la l.length lc] W fun e w' => e = .returned (.tuple #[zeroE, .slice none 0 0, errV c]) ∧ Below W.heap.size W w') :
    Calls Try.prog 8 #[elderV s.t s.g0 s.g1 s.nx (.slice fa s.free.length fc) (.slice ea s.es.length ec), .slice la l.length lc] w fun e w' => e = .returned (.bool true) ∧ Below w.heap.size w w' := by
  have hb1 : Below w.heap.size w (w.alloc (.cells #[.int .i64 s.t, .int .i64 s.g0, .int .i64 s.g1, .int .i64 s.nx, .slice fa s.free.length fc, .slice ea s.es.length ec] 60)) := (Below.refl _ w).alloc (Nat.le_refl _) _
  have HC := hid (hstep _ hb1)
  rw [errV_some hc] at HC
  have HB1 := hid hb1
  have HS1 : Hid ((w.alloc (.cells #[.int .i64 s.t, .int .i64 s.g0, .int .i64 s.g1, .int .i64 s.nx, .slice fa s.free.length fc, .slice ea s.es.length ec] 60)).heap.size = w.heap.size + 1) := by show _ = _; simp [go_sem]
  clear hb1 hstep
  go_enter Try.func8, Try.ntmps8
  go_wp2_with fail
  refine HC.out.mono ?_
  rintro e w2 ⟨rfl, hb2⟩
  have HB2 : Hid (Below w.heap.size w w2) := HB1.out.trans (hb2.mono (by rw [HS1.out]; omega))
  have hs2 : w.heap.size < w2.heap.size := by have := hb2.size; rw [HS1.out] at this; omega
  clear HC hb2 HB1 HS1
  have hb3 : Below w2.heap.size w2 (w2.alloc (.cells #[.int .i64 0, .int .i64 0, .int .i64 0, .int .i64 0, .slice none 0 0, .slice none 0 0] 60)) := (Below.refl _ _).alloc (Nat.le_refl _) _
  have HB3 : Hid (Below w.heap.size w (w2.alloc (.cells #[.int .i64 0, .int .i64 0, .int .i64 0, .int .i64 0, .slice none 0 0, .slice none 0 0] 60))) := HB2.out.trans (hb3.mono (by omega))
  clear hb3
  go_wp2_with fail
  refine (sameElder_zero _).mono ?_
  rintro e w4 ⟨rfl, hb4⟩
  have HB4 : Hid (Below w.heap.size w w4) := HB3.out.trans (hb4.mono (by simp [go_sem]; omega))
  clear hb4 HB3 HB2
  go_wp2
  go_ret
  exact ⟨rfl, HB4.out⟩

/- Has the number come up among the first k? -/
def cameK (b : List Int) (id : Int) (k : Nat) : Bool := (b.take k).contains id
def wasK (es : List (List Int)) (b : List Int) (id : Int) (k : Nat) : Bool := cameK b id b.length || (es.take k).any fun o => fld o 0 == id
theorem cameK_zero (b : List Int) (id : Int) : cameK b id 0 = false := by unfold cameK; simp
theorem cameK_next {b : List Int} {id : Int} {k : Nat} (hk : k < b.length) : cameK b id (k + 1) = (cameK b id k || (fld b k == id)) := by
  unfold cameK fld
  rw [List.take_add_one, List.getElem?_eq_getElem hk, List.getD_eq_getElem?_getD, List.getElem?_eq_getElem hk]
  simp only [Option.toList_some, Option.getD_some]
  rw [Bool.eq_iff_iff, List.contains_iff_mem, List.mem_append, List.mem_singleton, Bool.or_eq_true, List.contains_iff_mem, beq_iff_eq]
  constructor
  · rintro (h | h)
    · exact Or.inl h
    · exact Or.inr h.symm
  · rintro (h | h)
    · exact Or.inl h
    · exact Or.inr h.symm
theorem wasK_zero (es : List (List Int)) (b : List Int) (id : Int) : wasK es b id 0 = cameK b id b.length := by unfold wasK; simp
theorem wasK_next {es : List (List Int)} {b : List Int} {id : Int} {k : Nat} (hk : k < es.length) : wasK es b id (k + 1) = (wasK es b id k || (fld (rec es k) 0 == id)) := by
  unfold wasK
  rw [take_rec hk, List.any_append, Bool.or_assoc]
  simp
/- When one is met that has the number, none has been met before. -/
theorem wasK_first {s T : St} (h : Left4 s T) (hs : Inv s) {e : List Int} (he : e ∈ T.es) {k : Nat} (hk : k < s.es.length) (hid : fld (rec s.es k) 0 = fld e 0) : wasK s.es T.born (fld e 0) k = false := by
  unfold wasK cameK
  rw [List.take_length, Bool.or_eq_false_iff]
  refine ⟨?_, ?_⟩
  · have := (h.same e he _ (rec_mem hk) hid).1
    simpa using this
  · rw [List.any_eq_false]
    intro o ho hx
    obtain ⟨j, hj, rfl⟩ := List.mem_iff_getElem.1 ho
    rw [List.length_take] at hj
    rw [List.getElem_take] at hx
    have hj2 : j < s.es.length := by omega
    have := invM_uniq hs.mem j k hj2 hk (by rw [rec_at hj2, hid]; exact eq_of_beq hx)
    omega
theorem wasK_last {s T : St} (h : Left4 s T) {e : List Int} (he : e ∈ T.es) : wasK s.es T.born (fld e 0) s.es.length = true := by
  unfold wasK cameK
  rw [List.take_length, List.take_length, Bool.or_eq_true]
  rcases h.some e he with hb | ⟨o, ho, hid⟩
  · exact Or.inl (by simpa using hb)
  · exact Or.inr (List.any_eq_true.2 ⟨o, ho, by simpa using hid⟩)

set_option maxRecDepth 100000 in
set_option maxHeartbeats 8000000 in
theorem topElder_good (s : St) (fa ea la : Option Addr) (fc ec lc : Nat) (l : List (List Int)) (w : World) (h : InE w s fa ea fc ec) (hl : Recs w la 7 l) (hc : checkE s.t s.g0 s.g1 s.nx s.free s.es = 0) (h8 : l.length ≤ 8) (ht : s.t ≠ 60) :
    Calls Try.prog 8 #[elderV s.t s.g0 s.g1 s.nx (.slice fa s.free.length fc) (.slice ea s.es.length ec), .slice la l.length lc] w fun e w' => e = .returned (.bool true) ∧ Below w.heap.size w w' := by
  have hinv := inv_of_check hc
  have HIV := hid hinv
  have hL4 := left4 hinv h.born ht l h8
  obtain ⟨w1, hw1⟩ : ∃ w1, w.alloc (.cells #[.int .i64 s.t, .int .i64 s.g0, .int .i64 s.g1, .int .i64 s.nx, .slice fa s.free.length fc, .slice ea s.es.length ec] 60) = w1 := ⟨_, rfl⟩
  have hb1 : Below w.heap.size w w1 := by rw [← hw1]; exact (Below.refl _ w).alloc (Nat.le_refl _) _
  have hh1 : w1.heap[w.heap.size]? = some (.cells #[.int .i64 s.t, .int .i64 s.g0, .int .i64 s.g1, .int .i64 s.nx, .slice fa s.free.length fc, .slice ea s.es.length ec] 60) := by rw [← hw1]; exact heap_alloc_new _ _
  have hs1 : w1.heap.size = w.heap.size + 1 := by rw [← hw1]; simp [go_sem]
  obtain ⟨x0, x1, x2, x3, x4, x5⟩ := elder_cells hh1
  have HC := hid (step_good s fa ea la fc ec lc l w1 (h.below hb1) (hl.below hb1) hc h8 ht)
  have HIN := hid h
  have HB1 := hid hb1
  have HH1 := hid hh1
  have HS1 := hid hs1
  generalize stepS s l = T at HC hL4
  have HL4 := hid hL4
  have ht0 := hinv.t0
  have ht1 := hinv.t1
  have hsel := hinv.el
  have hel := hL4.small.1
  have hbl := hL4.small.2
  have hlen := hL4.len
  clear h hl hc hb1 hh1 hs1 hL4 hinv
  go_enter Try.func8, Try.ntmps8
  go_wp2_with fail
  refine HC.out.mono ?_
  rintro e w2 ⟨fv, ev, bv, rfl, hre, hrf, hrb, _, hb2⟩
  obtain ⟨ea', ec', rfl, hecap, hrecs, _⟩ := hre.open
  obtain ⟨fa', fc', rfl, _, hnums, _⟩ := hrf.open
  obtain ⟨ba', bc', rfl, _, hborn, _⟩ := hrb.open
  have hr2 := (hb2.block w.heap.size (by rw [HS1.out]; omega)).trans HH1.out
  have HB2 : Hid (Below w.heap.size w w2) := HB1.out.trans (hb2.mono (by rw [HS1.out]; omega))
  have hs2 : w.heap.size < w2.heap.size := (Array.getElem?_eq_some_iff.1 hr2).1
  have HRE := hid hrecs
  have HNU := hid hnums
  have HBO := hid hborn
  have HR2 := hid hr2
  clear HC hb2 HB1 HH1 HS1 hre hrf hrb hrecs hnums hborn hr2 x0 x1 x2 x3 x4 x5 hw1
  obtain ⟨V, hV⟩ : ∃ V, w2.alloc (.cells #[.int .i64 T.t, .int .i64 T.g0, .int .i64 T.g1, .int .i64 T.nx, .slice fa' T.free.length fc', .slice ea' T.es.length ec'] 60) = V := ⟨_, rfl⟩
  have hbV : Below w2.heap.size w2 V := by rw [← hV]; exact (Below.refl _ _).alloc (Nat.le_refl _) _
  have hhV : V.heap[w2.heap.size]? = some (.cells #[.int .i64 T.t, .int .i64 T.g0, .int .i64 T.g1, .int .i64 T.nx, .slice fa' T.free.length fc', .slice ea' T.es.length ec'] 60) := by rw [← hV]; exact heap_alloc_new _ _
  have hsV : w2.heap.size < V.heap.size := (Array.getElem?_eq_some_iff.1 hhV).1
  obtain ⟨x0, x1, x2, x3, x4, x5⟩ := elder_cells hhV
  have HBV : Hid (Below w.heap.size w V) := HB2.out.trans (hbV.mono (by omega))
  have HRV := hid (HRE.out.below hbV)
  have HOV := hid (HBO.out.below hbV)
  have HHV := hid hhV
  have HSV : Hid (V.heap[w.heap.size]? = some (.cells #[.int .i64 s.t, .int .i64 s.g0, .int .i64 s.g1, .int .i64 s.nx, .slice fa s.free.length fc, .slice ea s.es.length ec] 60)) := (hbV.block _ hs2).trans HR2.out
  have HCK := hid (check_calls T.t T.g0 T.g1 T.nx T.free fa' ea' fc' ec' T.es V hecap HRV.out (HNU.out.below hbV) HL4.out.wf)
  rw [HL4.out.right, errV_zero] at HCK
  clear hbV hhV HRE HBO HNU HR2 HB2
  go_wp2_with fail
  refine HCK.out.mono ?_
  rintro e w3 ⟨rfl, hb3⟩
  have hT3 := (hb3.block _ hsV).trans HHV.out
  have hS3 := (hb3.block w.heap.size (by omega)).trans HSV.out
  have HB3 : Hid (Below w.heap.size w w3) := HBV.out.trans (hb3.mono (by omega))
  have HR3 := hid (HRV.out.below hb3)
  have HO3 := hid (HOV.out.below hb3)
  have HT3 := hid hT3
  have HS3 := hid hS3
  clear HCK x0 x1 x2 x3 x4 x5 hV HRV HOV HHV HSV HBV hb3
  obtain ⟨x0, _, _, _, _, x5⟩ := elder_cells hT3
  obtain ⟨z0, _, _, _, _, z5⟩ := elder_cells hS3
  have hwr : IntKind.i64.wrap (s.t + 1) = s.t + 1 := IntWalk.i64_in _ ⟨by omega, by omega⟩
  have hwl : IntKind.i64.wrap ((s.es.length : Int) + (T.born.length : Int)) = (s.es.length : Int) + (T.born.length : Int) := IntWalk.i64_in _ ⟨by omega, by omega⟩
  have htk : (T.t != s.t + 1) = false := by rw [HL4.out.tick]; simp
  have hln : ¬ (s.es.length : Int) + (T.born.length : Int) < (T.es.length : Int) := by omega
  clear hT3 hS3
  go_wp2_with fail
  clear x0 x5 z0 z5 hwr hwl htk hln
  go_loopw [8] (fun i wr => ∃ k : Nat, k ≤ T.es.length ∧ i = .int .i64 k ∧ Hid (Below w3.heap.size w3 wr)) (fun i _ => T.es.length - (intOf i).toNat)
  case atStart => exact ⟨0, Nat.zero_le _, rfl, Below.refl _ _⟩
  case round =>
    obtain ⟨k, hk, rfl, HBk⟩ := hrel
    obtain ⟨X, hX⟩ : ∃ X, X = wr := ⟨_, rfl⟩
    subst hX
    have hT := (HBk.out.block _ (Array.getElem?_eq_some_iff.1 HT3.out).1).trans HT3.out
    have hS := (HBk.out.block _ (Array.getElem?_eq_some_iff.1 HS3.out).1).trans HS3.out
    obtain ⟨x0, _, _, _, _, x5⟩ := elder_cells hT
    obtain ⟨z0, _, _, _, _, z5⟩ := elder_cells hS
    have HT := hid hT
    have HS := hid hS
    have hszr := HBk.out.size
    have hsz3 : w2.heap.size < w3.heap.size := (Array.getElem?_eq_some_iff.1 HT3.out).1
    clear x0 z0 hT hS
    by_cases hkl : k < T.es.length
    · have hkz : (k : Int) < (T.es.length : Int) := by omega
      obtain ⟨b, o, rfl, hb, l0, l1, l2, l3, l4, l5, l6, l7, l8, l9⟩ := (HR3.out.below HBk.out).ten hkl
      have HMEM := hid (rec_mem hkl)
      generalize rec T.es k = y at l0 l1 l2 l3 l4 l5 l6 l7 l8 l9 HMEM
      go_wp2_with fail
      obtain ⟨U, hU⟩ : ∃ U, X.alloc (.cells (entC y) 86) = U := ⟨_, rfl⟩
      rw [hU]
      have hbU : Below X.heap.size X U := by rw [← hU]; exact (Below.refl _ _).alloc (Nat.le_refl _) _
      have hhU : U.heap[X.heap.size]? = some (.cells (entC y) 86) := by rw [← hU]; exact heap_alloc_new _ _
      have HBU : Hid (Below w3.heap.size w3 U) := HBk.out.trans (hbU.mono (by omega))
      have HHU := hid hhU
      have HSU : Hid (U.heap[w.heap.size]? = _) := (hbU.block w.heap.size (by omega)).trans HS.out
      have hsU : X.heap.size < U.heap.size := (Array.getElem?_eq_some_iff.1 hhU).1
      clear l0 l1 l2 l3 l4 l5 l6 l7 l8 l9 hU hbU hhU x5 z5 HT HS HBk
      go_loopw [10, 11] (fun came i wq => ∃ j : Nat, j ≤ T.born.length ∧ i = .int .i64 j ∧ came = .bool (cameK T.born (fld y 0) j) ∧ Hid (Below U.heap.size U wq)) (fun _ i _ => T.born.length - (intOf i).toNat)
      case atStart => exact ⟨0, Nat.zero_le _, rfl, by rw [cameK_zero], Below.refl _ _⟩
      case round =>
        obtain ⟨j, hj, rfl, rfl, HBj⟩ := hrel
        have h0 : wr.cell? ⟨X.heap.size, 0, none⟩ = some (.int .i64 (fld y 0)) := cell_of_row wr _ 0 _ _ _ ((HBj.out.block _ hsU).trans HHU.out)
        by_cases hjl : j < T.born.length
        · have hjz : (j : Int) < (T.born.length : Int) := by omega
          have HNX := hid (cameK_next (id := fld y 0) hjl)
          obtain ⟨b', o', rfl, lj⟩ := (HO3.out.below (HBU.out.trans (HBj.out.mono (by omega)))).at hjl
          cases hcm : cameK T.born (fld y 0) j with
          | true =>
            rw [hcm] at HNX
            go_wp2_with fail
            go_quiet (fail)
            go_wp2
            go_roundw
            case rel => exact ⟨j + 1, by omega, by go_num, by rw [HNX.out]; rfl, below_drewN HBj.out _⟩
            case measure => simp [intOf]; omega
          | false =>
            rw [hcm] at HNX
            go_wp2_with fail
            go_quiet (fail)
            go_wp2
            go_roundw
            case rel => exact ⟨j + 1, by omega, by go_num, by rw [HNX.out]; rfl, below_drewN HBj.out _⟩
            case measure => simp [intOf]; omega
        · have hjz : ¬ (j : Int) < (T.born.length : Int) := by omega
          have hje : j = T.born.length := by omega
          subst hje
          clear h0
          go_wp2
          go_loopw [10, 12] (fun came i wq => ∃ j : Nat, j ≤ s.es.length ∧ i = .int .i64 j ∧ came = .bool (wasK s.es T.born (fld y 0) j) ∧ Hid (Below U.heap.size U wq)) (fun _ i _ => s.es.length - (intOf i).toNat)
          case atStart => exact ⟨0, Nat.zero_le _, rfl, by rw [wasK_zero], HBj⟩
          case round =>
            clear HBj
            obtain ⟨j, hj2, rfl, rfl, HBj⟩ := hrel
            have hhy := (HBj.out.block _ hsU).trans HHU.out
            have z5 : wr.cell? ⟨w.heap.size, 5, none⟩ = some (.slice ea s.es.length ec) := (elder_cells ((HBj.out.block w.heap.size (by omega)).trans HSU.out)).2.2.2.2.2
            have HBw : Hid (Below w.heap.size w wr) := HB3.out.trans ((HBU.out.trans (HBj.out.mono (by omega))).mono (by omega))
            by_cases hjl : j < s.es.length
            · have hjz2 : (j : Int) < (s.es.length : Int) := by omega
              have HNX := hid (wasK_next (b := T.born) (id := fld y 0) hjl)
              have HOM := hid (rec_mem hjl)
              have HFST := hid (fun h => wasK_first HL4.out HIV.out HMEM.out hjl h)
              obtain ⟨b2, o2, rfl, hb2, m0, m1, m2, m3, m4, m5, m6, m7, m8, m9⟩ := (HIN.out.rows.below HBw.out).ten hjl
              generalize rec s.es j = q at m0 m1 m2 m3 m4 m5 m6 m7 m8 m9 HNX HOM HFST
              obtain ⟨Z, hZ⟩ : ∃ Z, wr.alloc (.cells (entC q) 86) = Z := ⟨_, rfl⟩
              have hbZ : Below wr.heap.size wr Z := by rw [← hZ]; exact (Below.refl _ _).alloc (Nat.le_refl _) _
              have hhZ : Z.heap[wr.heap.size]? = some (.cells (entC q) 86) := by rw [← hZ]; exact heap_alloc_new _ _
              have hyl : X.heap.size < wr.heap.size := (Array.getElem?_eq_some_iff.1 hhy).1
              have hhyZ := (hbZ.block _ hyl).trans hhy
              have q0 : Z.cell? ⟨wr.heap.size, 0, none⟩ = some (.int .i64 (fld q 0)) := cell_of_row Z _ 0 _ _ _ hhZ
              have q1 : Z.cell? ⟨wr.heap.size, 1, none⟩ = some (.int .i64 (fld q 1)) := cell_of_row Z _ 1 _ _ _ hhZ
              have q2 : Z.cell? ⟨wr.heap.size, 2, none⟩ = some (.int .i64 (fld q 2)) := cell_of_row Z _ 2 _ _ _ hhZ
              have q3 : Z.cell? ⟨wr.heap.size, 3, none⟩ = some (.int .i64 (fld q 3)) := cell_of_row Z _ 3 _ _ _ hhZ
              have q4 : Z.cell? ⟨wr.heap.size, 4, none⟩ = some (.int .i64 (fld q 4)) := cell_of_row Z _ 4 _ _ _ hhZ
              have q5 : Z.cell? ⟨wr.heap.size, 5, none⟩ = some (.int .i64 (fld q 5)) := cell_of_row Z _ 5 _ _ _ hhZ
              have y0 : Z.cell? ⟨X.heap.size, 0, none⟩ = some (.int .i64 (fld y 0)) := cell_of_row Z _ 0 _ _ _ hhyZ
              have y1 : Z.cell? ⟨X.heap.size, 1, none⟩ = some (.int .i64 (fld y 1)) := cell_of_row Z _ 1 _ _ _ hhyZ
              have y2 : Z.cell? ⟨X.heap.size, 2, none⟩ = some (.int .i64 (fld y 2)) := cell_of_row Z _ 2 _ _ _ hhyZ
              have y3 : Z.cell? ⟨X.heap.size, 3, none⟩ = some (.int .i64 (fld y 3)) := cell_of_row Z _ 3 _ _ _ hhyZ
              have y4 : Z.cell? ⟨X.heap.size, 4, none⟩ = some (.int .i64 (fld y 4)) := cell_of_row Z _ 4 _ _ _ hhyZ
              have y5 : Z.cell? ⟨X.heap.size, 5, none⟩ = some (.int .i64 (fld y 5)) := cell_of_row Z _ 5 _ _ _ hhyZ
              have HBZ : Hid (Below U.heap.size U Z) := HBj.out.trans (hbZ.mono HBj.out.size)
              clear hbZ hhZ hhyZ hhy
              cases hide : (fld q 0 == fld y 0) with
              | false =>
                have hne : (fld q 0 != fld y 0) = true := by rw [bne, hide]; rfl
                rw [hide, Bool.or_false] at HNX
                clear hide
                go_wp2
                go_roundw
                case rel => exact ⟨j + 1, by omega, by go_num, by rw [HNX.out], HBZ⟩
                case measure => simp [intOf]; omega
              | true =>
                have hne : (fld q 0 != fld y 0) = false := by rw [bne, hide]; rfl
                have heq : fld q 0 = fld y 0 := eq_of_beq hide
                rw [hide, Bool.or_true] at HNX
                have hfs := HFST.out heq
                obtain ⟨_, k2, k1, k5, kf⟩ := HL4.out.same y HMEM.out q HOM.out heq
                have n2 : (fld q 2 != fld y 2) = false := by rw [k2]; simp
                have n1 : (fld q 1 != fld y 1) = false := by rw [k1]; simp
                have n5 : ¬ fld q 5 < fld y 5 := by omega
                have nf : ¬ 1 < Pl.farZ (fld q 3) (fld q 4) (fld y 3) (fld y 4) := by omega
                have HOY := hid (HL4.out.on y HMEM.out)
                have HOQ := hid (HIV.out.mem.on HOM.out)
                rw [hfs]
                clear hide heq k1 k2 k5 kf hfs
                go_wp2_with fail
                refine (far_calls _ _ _ _ HOQ.out HOY.out _).mono ?_
                rintro e w9 ⟨rfl, rfl⟩
                go_wp2
                go_roundw
                case rel => exact ⟨j + 1, by omega, by go_num, by rw [HNX.out], HBZ⟩
                case measure => simp [intOf]; omega
            · have hjz2 : ¬ (j : Int) < (s.es.length : Int) := by omega
              have hje : j = s.es.length := by omega
              subst hje
              have HWL := hid (wasK_last HL4.out HMEM.out)
              rw [HWL.out]
              have HB9 : Hid (Below w3.heap.size w3 wr) := HBU.out.trans (HBj.out.mono (by omega))
              clear hhy
              go_wp2
              go_roundw
              case rel => exact ⟨k + 1, by omega, by go_num, HB9⟩
              case measure => simp [intOf]; omega
    · have hkz : ¬ (k : Int) < (T.es.length : Int) := by omega
      have HBF : Hid (Below w.heap.size w X) := HB3.out.trans (HBk.out.mono (by omega))
      go_wp2
      go_ret
      exact ⟨rfl, HBF.out⟩
end Go.Proofs.Ytgiieepfhohmhaa
