/- Package newer of the program: who has nothing left is gone. -/
import Derived.Test.YtmnddahkbmlibaaNsNwI
import Derived.Test.YtmnddahkbmlibaaNsNwS
import Derived.Test.YtmnddahkbmlibaaNsDfN
namespace Go.Proofs.Ytmnddahkbmlibaa
open Go.RowKit Go.Maps
theorem gone_alive (u : List Int) : (!goneB u) = aliveB u := by
  unfold goneB aliveB
  by_cases h : 0 < fld u 5
  · rw [decide_eq_true h, decide_eq_false (by omega)]; rfl
  · rw [decide_eq_false h, decide_eq_true (by omega)]; rfl
theorem filter_gone (es : List (List Int)) : es.filter (fun u => !goneB u) = es.filter aliveB := by
  congr 1
  funext u
  exact gone_alive u
theorem gmN_cut {base : Nat} {w w' : World} {p B : Nat} {uv uv' : Value} {s : St} {f : Int → Option Value} {o : Int} {es : List (List Int)} (h : GmN base w p uv B s f o) (hk : Keep w uv.ownBlock w') (hr : RowU base w' uv' es) (hb : uv'.ownBlock = uv.ownBlock) :
    GmN base (w'.setCell ⟨p, 4, none⟩ uv') p uv' B { s with es := es } f o := by
  have hp' : w'.heap[p]? = some (.cells (nwC s uv B o) 162) := (hk.2 p h.lt (row_ne h.er h.hp (by decide))).trans h.hp
  obtain ⟨me, mc, hm⟩ := h.wh.isMap
  have hB' : w'.heap[B]? = w.heap[B]? := hk.2 B h.wh.lt (row_ne_map h.er hm)
  have hne : uv'.ownBlock ≠ some p := by rw [hb]; exact row_ne h.er h.hp (by decide)
  refine ⟨?_, row_set hr hne _ _, (h.wh.other hB').other (heap_setCell_other w' ⟨p, 4, none⟩ B uv' (fun e => h.pB (by have : B = p := e; exact this.symm))), h.bp, h.bB⟩
  exact heap_setCell_same w' p 4 _ _ uv' hp'
theorem keep_lt {base : Nat} {w w' : World} {uv : Value} {es : List (List Int)} (hk : Keep w uv.ownBlock w') (hr : RowU base w uv es) (hb : base ≤ w.heap.size) : Below base w w' :=
  ⟨hk.1.os, hk.1.tape, hk.1.output, hk.1.size, fun k hkk => hk.2 k (by omega) (fun e => by have := (World.ownsRow.lt hr k e).1; omega)⟩
theorem idleF_who {A : List (List Int)} (hu : Uniq A) (u : List Int) : idleF A u = if 0 < fld u 9 ∧ whoK A A.length (fld u 9) = none then tellR u 0 0 0 0 else u := by
  unfold idleF
  rw [who_look hu]
  have hw : whoZ (fld u 9) A = idxZ (isId (fld u 9)) A := rfl
  rw [hw]
  by_cases hz : 0 ≤ idxZ (isId (fld u 9)) A
  · rw [if_pos hz, decide_eq_false (show ¬ idxZ (isId (fld u 9)) A < 0 by omega), Bool.and_false, if_neg (by decide), if_neg (fun h => by cases h.2)]
  · rw [if_neg hz, decide_eq_true (show idxZ (isId (fld u 9)) A < 0 by omega), Bool.and_true]
    simp
set_option maxRecDepth 100000 in
set_option maxHeartbeats 8000000 in
theorem buryN_calls (base p B : Nat) (uv : Value) (s : St) (f : Int → Option Value) (o : Int) (w : World) (hn : s.es.length ≤ 100) (hu : Uniq (s.es.filter aliveB)) (h : GmN base w p uv B s f o) :
    Calls Try.prog 110 #[.pointer (some ⟨p, 0, none⟩)] w fun e w' => e = .returned (.tuple #[]) ∧ GmNE base w' p B (buryO s) o ∧ Below base w w' := by
  have hlt := h.lt
  have hbp := h.bp
  have hbs : base ≤ w.heap.size := by omega
  have eg : ∀ args w, (callFunc 162 args).run Try.prog w = .ok (.enter 162 args) w := enters_of Try.func162 (by kernel_rfl) rfl
  have HD := hid (deleteU_calls 162 eg goneB base s.es uv w (by omega) h.er (fun W u => goneN_calls W W u (Below.refl _ _)))
  rw [filter_gone] at HD
  have hal : (s.es.filter aliveB).length ≤ 100 := Nat.le_trans (List.length_filter_le _ _) hn
  have HBO : Hid (buryO s = { s with es := (s.es.filter aliveB).map (idleF (s.es.filter aliveB)) }) := rfl
  obtain ⟨A, hA⟩ : ∃ A, s.es.filter aliveB = A := ⟨_, rfl⟩
  rw [hA] at HD hal HBO hu
  have HU := hid hu
  obtain ⟨ea, c, huv, _, _, _⟩ := h.er.open
  have d4 : w.cell? ⟨p, 4, none⟩ = some (.slice ea s.es.length c) := by rw [← huv]; exact h.cell 4
  have HG := hid h
  rw [huv] at HD
  have HUV := hid huv
  clear h eg hA hu huv
  go_enter Try.func110, Try.ntmps110
  go_wp2_with fail
  refine HD.out.mono ?_
  rintro e w1 ⟨uv1, rfl, hr1, hk1, hb1⟩
  rw [← HUV.out] at hk1 hb1
  have hG2 := gmN_cut HG.out hk1 hr1 hb1
  have HB2 : Hid (Below base w (w1.setCell ⟨p, 4, none⟩ uv1)) := (keep_lt hk1 HG.out.er hbs).setCell (p := ⟨p, 4, none⟩) hbp _
  have hp1 : w1.heap[p]? = some (.cells (nwC s uv B o) 162) := (hk1.2 p HG.out.lt (row_ne HG.out.er HG.out.hp (by decide))).trans HG.out.hp
  have e4 : w1.cell? ⟨p, 4, none⟩ = some uv := cell_of_row w1 p 4 _ _ _ hp1
  have ef4 := frozen_of_row w1 p 4 _ _ hp1
  rw [HUV.out] at e4
  obtain ⟨va, vc, rfl, hvc, _, hv0⟩ := hr1.open
  have HV0 := hid hv0
  have hs2 : base ≤ (w1.setCell ⟨p, 4, none⟩ (.slice va A.length vc)).heap.size := Nat.le_trans hbs HB2.out.size
  have HTL := hid (tellN_calls base p B (.slice va A.length vc) { s with es := A } f o _ (show A.length ≤ 1000 by omega) hG2 hs2)
  clear hr1 hk1 hb1 hG2 hp1 HD d4 hv0
  go_wp2_with fail
  refine HTL.out.mono ?_
  rintro e w3 ⟨rfl, hG3, hb3⟩
  have HB3 := hid (HB2.out.trans hb3)
  have HG3 : Hid (GmN base w3 p (.slice va A.length vc) B { s with es := mapK (idleF A) A 0 } (whoK A A.length) o) := by
    show GmN _ _ _ _ _ _ _ _
    rw [mapK_zero]
    exact hG3
  have d4 := hG3.cell 4
  clear hG3 hb3 HTL e4 ef4 HB2
  go_wp2
  clear d4
  go_loopw [24] (fun i wr => ∃ k : Nat, k ≤ A.length ∧ i = .int .i64 k ∧ Hid (GmN base wr p (.slice va A.length vc) B { s with es := mapK (idleF A) A k } (whoK A A.length) o) ∧ Hid (Below base w wr)) (fun i _ => A.length - (intOf i).toNat)
  case atStart => exact ⟨0, Nat.zero_le _, rfl, HG3, HB3⟩
  case round =>
    clear HG3 HB3
    obtain ⟨k, hk, rfl, HGk, HBk⟩ := hrel
    by_cases hkl : k < A.length
    · have hkz : (k : Int) < (A.length : Int) := by omega
      have hlk : (mapK (idleF A) A k).length = A.length := mapK_length _ _ hk
      obtain ⟨g, rfl, hbg, hgl⟩ := HV0.out (by omega)
      have hkl2 : k < ({ s with es := mapK (idleF A) A k } : St).es.length := by show k < (mapK (idleF A) A k).length; omega
      obtain ⟨hc, hf⟩ := HGk.out.er.cells hkl2
      have hrk : rec ({ s with es := mapK (idleF A) A k } : St).es k = rec A k := by show rec (mapK (idleF A) A k) k = _; rw [mapK_rec _ _ hk hkl, if_neg (by omega)]
      rw [hrk] at hc
      have l6 := hc 6 (by omega)
      have l7 := hc 7 (by omega)
      have l8 := hc 8 (by omega)
      have l9 := hc 9 (by omega)
      have f6 := hf (k * 11 + 6)
      have f7 := hf (k * 11 + 7)
      have f8 := hf (k * 11 + 8)
      have f9 := hf (k * 11 + 9)
      have d4 := HGk.out.cell 4
      have d5 := HGk.out.cell 5
      have HRK := hid hrk
      have HIW := hid (idleF_who HU.out (rec A k))
      have hlook : ∀ n, (Instr.lookup 141 (.map (some B)) (.int .i64 (fld (rec A k) 9)) true).run Try.prog (wr.drewN n) = .ok (.tuple #[(whoK A A.length (fld (rec A k) 9)).getD (inV 0), .bool (whoK A A.length (fld (rec A k) 9)).isSome]) (wr.drewN n) := fun n => (HGk.out.wh.below (below_drewN (Below.refl _ wr) n)).lookOk (fld (rec A k) 9)
      obtain ⟨zv, hzv⟩ : ∃ zv : Int, (whoK A A.length (fld (rec A k) 9)).getD (inV 0) = .int .i64 zv := by
        rw [who_look HU.out]
        split
        · exact ⟨_, rfl⟩
        · exact ⟨_, rfl⟩
      rw [hzv] at hlook
      clear hc hf hrk hzv
      by_cases hall : 0 < fld (rec A k) 9 ∧ whoK A A.length (fld (rec A k) 9) = none
      · have HN : Hid (mapK (idleF A) A (k + 1) = (mapK (idleF A) A k).set k (tellR (rec A k) 0 0 0 0)) := by
          show _ = _
          rw [mapK_next _ _ hkl, HIW.out, if_pos hall]
        have h9 := hall.1
        rw [hall.2] at hlook
        have hlook' : ∀ n, (Instr.lookup 141 (.map (some B)) (.int .i64 (fld (rec A k) 9)) true).run Try.prog (wr.drewN n) = .ok (.tuple #[.int .i64 zv, .bool false]) (wr.drewN n) := hlook
        clear hall hlook
        go_wp2_with fail
        go_quiet (fail)
        have hG4 := gmN_tell (HGk.out.below (below_drewN (Below.refl _ wr) nq)) hkl2 0 0 0 0
        rw [HRK.out] at hG4
        have HG4 : Hid (GmN base (turnW (wr.drewN nq) g (k * 11) 0) p (.slice (some ⟨g, 0, none⟩) A.length vc) B { s with es := mapK (idleF A) A (k + 1) } (whoK A A.length) o) := by
          show GmN _ _ _ _ _ _ _ _
          rw [HN.out]
          exact hG4
        have HB4 := hid (below_turnW (m := k * 11) (does := 0) (below_drewN HBk.out nq) hbg)
        have t6 : (wr.drewN nq).cell? ⟨g, k * 11 + 6, none⟩ = _ := l6
        have t7 : (wr.drewN nq).cell? ⟨g, k * 11 + 7, none⟩ = _ := l7
        have t8 : (wr.drewN nq).cell? ⟨g, k * 11 + 8, none⟩ = _ := l8
        have t9 : (wr.drewN nq).cell? ⟨g, k * 11 + 9, none⟩ = _ := l9
        clear hG4 d4 d5 hlook'
        go_wp2_with fail
        refine (turnN_calls g (k * 11) 0 (wr.drewN nq) _ _ _ _ t6 t7 t8 t9 f6 f7 f8 f9).mono ?_
        rintro e w4 ⟨rfl, rfl⟩
        clear l6 l7 l8 l9 f6 f7 f8 f9 t6 t7 t8 t9
        generalize turnW (wr.drewN nq) g (k * 11) 0 = w4 at HG4 HB4
        go_wp2
        go_roundw
        case rel => exact ⟨k + 1, by omega, by go_num, HG4, HB4⟩
        case measure => simp [intOf]; omega
      · have HS : Hid (mapK (idleF A) A (k + 1) = mapK (idleF A) A k) := mapK_same _ _ hkl (by rw [HIW.out, if_neg hall])
        have HG4 : Hid (∀ n, GmN base (wr.drewN n) p (.slice (some ⟨g, 0, none⟩) A.length vc) B { s with es := mapK (idleF A) A (k + 1) } (whoK A A.length) o) := fun n => by
          rw [HS.out]
          exact HGk.out.below (below_drewN (Below.refl _ wr) n)
        by_cases h9 : 0 < fld (rec A k) 9
        · have hsome : (whoK A A.length (fld (rec A k) 9)).isSome = true := by
            cases hw : whoK A A.length (fld (rec A k) 9) with
            | none => exact absurd ⟨h9, hw⟩ hall
            | some _ => rfl
          rw [hsome] at hlook
          clear hall HIW hsome
          go_wp2_with fail
          go_quiet (fail)
          have t9 : (wr.drewN nq).cell? ⟨g, k * 11 + 9, none⟩ = _ := l9
          go_wp2
          go_roundw
          case rel => exact ⟨k + 1, by omega, by go_num, HG4.out _, below_drewN HBk.out _⟩
          case measure => simp [intOf]; omega
        · have h9n : fld (rec A k) 9 ≤ 0 := by omega
          clear hall HIW
          generalize (whoK A A.length (fld (rec A k) 9)).isSome = bb at hlook
          go_wp2_with fail
          go_quiet (fail)
          have t9 : (wr.drewN nq).cell? ⟨g, k * 11 + 9, none⟩ = _ := l9
          go_wp2
          go_roundw
          case rel => exact ⟨k + 1, by omega, by go_num, HG4.out _, below_drewN HBk.out _⟩
          case measure => simp [intOf]; omega
    · have hkz : ¬ (k : Int) < (A.length : Int) := by omega
      have HF : Hid (GmNE base wr p B (buryO s) o) := by
        have h := HGk.out
        rw [mapK_all _ _ (by omega)] at h
        have e : whoK (buryO s).es (buryO s).es.length = whoK A A.length := by
          rw [HBO.out]
          exact who_map fun u => idleF_fld A u (by omega)
        refine ⟨.slice va A.length vc, ?_⟩
        rw [e, HBO.out]
        exact h
      clear HGk
      go_wp2
      go_end0
      exact ⟨rfl, HF.out, HBk.out⟩
end Go.Proofs.Ytmnddahkbmlibaa
