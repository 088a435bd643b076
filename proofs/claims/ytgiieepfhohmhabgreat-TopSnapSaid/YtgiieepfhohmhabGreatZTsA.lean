/- The law TopSnap: its walk. -/
import Derived.Deep.DeepCutAuto
import Derived.Test.YtgiieepfhohmhabGreatZWire2
import Derived.Test.YtgiieepfhohmhabGreatZWire6
import Derived.Test.YtgiieepfhohmhabGreatZSnY
import Derived.Test.YtgiieepfhohmhabGreatZRlC
namespace Go.Proofs.YtgiieepfhohmhabGreat
open Go.RowKit
def tsS : St := ⟨0, 0, 0, 1, [], [], []⟩
theorem ts_c : checkE tsS.t tsS.g0 tsS.g1 tsS.nx tsS.free tsS.es = 0 := by decide
theorem ts_one (w : World) : Calls Tryz.prog 23 #[.agg #[.int .i64 0, .int .i64 0, .int .i64 0, .int .i64 1, .slice none 0 0, .slice none 0 0]] w fun e w' => (∃ l : List UInt8, 0 < l.length ∧ e = .returned (.tuple #[.string ⟨l.toArray⟩, .nilIface])) ∧ Below w.heap.size w w' := by
  have h := bytesE_calls tsS none none 0 0 w ⟨fun _ => rfl, fun _ => rfl, Nat.le_refl _, Or.inl rfl, Or.inl rfl, fun _ hi => absurd hi (Nat.not_lt_zero _), rfl⟩
  rw [ts_c] at h
  have hl : 0 < (byE tsS).length := by
    unfold byE
    rw [if_pos ts_c, frameL_length]
    omega
  exact h.mono fun e w' ⟨he, hb⟩ => ⟨⟨byE tsS, hl, he⟩, hb⟩
theorem string_size (l : List UInt8) : (⟨l.toArray⟩ : ByteArray).size = l.length := by show l.toArray.size = _; simp
set_option maxRecDepth 100000 in
set_option maxHeartbeats 4000000 in
theorem topSnap_long (a b : ByteArray) (k : Int) (h : 3000 < a.size ∨ 3000 < b.size) (w : World) :
    Calls Tryz.prog 4 #[.string a, .string b, .int .u8 k] w fun e w' => e = .returned (.bool true) ∧ Below w.heap.size w w' := by
  have ways : (3000 : Int) < (a.size : Int) ∨ (¬ (3000 : Int) < (a.size : Int) ∧ (3000 : Int) < (b.size : Int)) := by omega
  clear h
  rcases ways with h | ⟨h, h'⟩
  all_goals
    go_enter Tryz.func4, Tryz.ntmps4
    go_wp2_with fail
    refine (ts_one _).mono ?_
    rintro e w1 ⟨⟨l, hl, rfl⟩, hb1⟩
    have HB := hid hb1
    have hls := string_size l
    have hz : (((⟨l.toArray⟩ : ByteArray).size : Int) == 0) = false := by rw [beq_eq_false_iff_ne, hls]; omega
    clear hb1 hls
    go_wp2
    go_ret
    exact ⟨rfl, HB.out⟩
def TwoS (V : World) (g : Nat) (x y : List UInt8) (wr : World) : Prop := Below V.heap.size V wr ∧ wr.heap[g]? = some (.cells #[.string ⟨x.toArray⟩, .string ⟨y.toArray⟩] 9)
theorem TwoS.below {V : World} {g : Nat} {x y : List UInt8} {wr w' : World} (h : TwoS V g x y wr) (hb : Below wr.heap.size wr w') : TwoS V g x y w' :=
  ⟨h.1.trans (hb.mono h.1.size), (hb.block _ (Array.getElem?_eq_some_iff.1 h.2).1).trans h.2⟩
theorem TwoS.at {V : World} {g : Nat} {x y : List UInt8} {wr : World} (h : TwoS V g x y wr) {k : Nat} (hk : k < 2) : wr.cell? ⟨g, k, none⟩ = some (.string ⟨(if k = 0 then x else y).toArray⟩) := by
  rcases Nat.lt_or_ge k 1 with h0 | h1
  · have e : k = 0 := by omega
    subst e
    exact cell_of_row wr g 0 _ _ _ h.2
  · have e : k = 1 := by omega
    subst e
    exact cell_of_row wr g 1 _ _ _ h.2
set_option maxRecDepth 100000 in
set_option maxHeartbeats 40000000 in
theorem topSnap_calls (b body : List UInt8) (kind : UInt8) (hb : b.length ≤ 3000) (hy : body.length ≤ 3000) (w : World) :
    Calls Tryz.prog 4 #[.string ⟨b.toArray⟩, .string ⟨body.toArray⟩, .int .u8 (kind.toNat : Int)] w fun e w' => e = .returned (.bool true) ∧ Below w.heap.size w w' := by
  have z1 : ¬ (3000 : Int) < (((⟨b.toArray⟩ : ByteArray).size : Nat) : Int) := by rw [string_size]; omega
  have z2 : ¬ (3000 : Int) < (((⟨body.toArray⟩ : ByteArray).size : Nat) : Int) := by rw [string_size]; omega
  go_enter Tryz.func4, Tryz.ntmps4
  go_wp2_with fail
  refine (ts_one _).mono ?_
  rintro e w1 ⟨⟨l, hl, rfl⟩, hb1⟩
  have HB1 := hid hb1
  have hls := string_size l
  have hz : (((⟨l.toArray⟩ : ByteArray).size : Int) == 0) = false := by rw [beq_eq_false_iff_ne, hls]; omega
  clear hb1 hls
  go_wp2_with fail
  refine (frame_calls kind body (by omega) _).mono ?_
  rintro e w2 ⟨rfl, hb2⟩
  have HB2 : Hid (Below w.heap.size w w2) := HB1.out.trans (hb2.mono HB1.out.size)
  have hfl := frameL_length kind body
  obtain ⟨f, hf⟩ : ∃ f, frameL kind body = f := ⟨_, rfl⟩
  rw [hf] at hfl ⊢
  obtain ⟨V, hV⟩ : ∃ V, w2.alloc (.cells #[.string ⟨b.toArray⟩, .string ⟨f.toArray⟩] 9) = V := ⟨_, rfl⟩
  have hTV : TwoS V w2.heap.size b f V := ⟨Below.refl _ _, by rw [← hV]; exact heap_alloc_new _ _⟩
  have HBV : Hid (Below w.heap.size w V) := by rw [← hV]; exact HB2.out.alloc HB2.out.size _
  have HTV := hid hTV
  have HVE := hid hV
  clear hb2 hf hV hTV HB1 hz hl
  go_upto_region 7 with fail
  rw [HVE.out]
  clear HVE
  go_wp2
  go_loopw [10] (fun i wr => ∃ k : Nat, k ≤ 2 ∧ i = .int .i64 k ∧ Hid (TwoS V w2.heap.size b f wr)) (fun i _ => 2 - (intOf i).toNat)
  case atStart => exact ⟨0, Nat.zero_le _, rfl, HTV⟩
  case round =>
    clear HTV
    obtain ⟨k, hk, rfl, HT⟩ := hrel
    by_cases hlt : k < 2
    · have hltz : (k : Int) < 2 := by omega
      obtain ⟨x, hx⟩ : ∃ x, (if k = 0 then b else f) = x := ⟨_, rfl⟩
      have hxl : x.length ≤ 10000 := by rw [← hx]; split <;> omega
      have HAT : Hid (∀ wx, TwoS V w2.heap.size b f wx → wx.cell? ⟨w2.heap.size, k, none⟩ = some (.string ⟨x.toArray⟩)) := fun wx h => by rw [← hx]; exact h.at hlt
      clear hx
      have c0 := HAT.out wr HT.out
      obtain ⟨R, hR⟩ : ∃ R, rdE x = R := ⟨_, rfl⟩
      have HOF := hid (elderOf_calls x hxl wr)
      rw [hR] at HOF
      go_wp2_with fail
      refine HOF.out.mono ?_
      rintro e w3 ⟨fa, ea, fc, ec, rfl, hi3, hb3⟩
      have HT3 := hid (HT.out.below hb3)
      obtain ⟨U, hU⟩ : ∃ U, w3.alloc (.cells (elC R.2.t R.2.g0 R.2.g1 R.2.nx (.slice fa R.2.free.length fc) (.slice ea R.2.es.length ec)) 29) = U := ⟨_, rfl⟩
      have hbU : Below w3.heap.size w3 U := by rw [← hU]; exact (Below.refl _ _).alloc (Nat.le_refl _) _
      have hhU : U.heap[w3.heap.size]? = some (.cells (elC R.2.t R.2.g0 R.2.g1 R.2.nx (.slice fa R.2.free.length fc) (.slice ea R.2.es.length ec)) 29) := by rw [← hU]; exact heap_alloc_new _ _
      have HTU := hid (HT3.out.below hbU)
      have HUE := hid hU
      obtain ⟨x0, x1, x2, x3, x4, x5⟩ := elder_cells hhU
      have HBY : Hid (R.1 = 0 → Calls Tryz.prog 23 #[elderV R.2.t R.2.g0 R.2.g1 R.2.nx (.slice fa R.2.free.length fc) (.slice ea R.2.es.length ec)] U fun e w' => e = .returned (.tuple #[.string ⟨x.toArray⟩, .nilIface]) ∧ Below U.heap.size U w') := fun h0 => by
        obtain ⟨hc, hfr, _⟩ := rdE_wrote (l := x) (s := R.2) (by rw [hR, ← h0])
        have h := bytesE_calls R.2 fa ea fc ec U (hi3.below hbU)
        rw [hc, show byE R.2 = x from (if_pos hc).trans hfr] at h
        exact h
      obtain ⟨ev, hev⟩ : ∃ ev, errV R.1 = ev := ⟨_, rfl⟩
      rw [hev]
      have HEV := hid hev
      clear hR hU hbU hhU hi3 hb3 HT HOF HT3 c0 hev
      go_upto_region 11 with fail
      rw [HUE.out]
      clear HUE
      by_cases h0 : R.1 = 0
      · have hev0 : ev = .nilIface := by rw [← HEV.out, h0]; rfl
        subst hev0
        have HB0 := hid (HBY.out h0)
        clear HBY h0 HEV
        go_wp2_with fail
        refine HB0.out.mono ?_
        rintro e wa ⟨rfl, hba⟩
        have HTa := hid (HTU.out.below hba)
        have ca := HAT.out wa HTa.out
        clear HB0 hba HTU x0 x1 x2 x3 x4 x5
        clear ca
        have c0 := HAT.out wa HTa.out
        obtain ⟨R, hR⟩ : ∃ R, rdN x = R := ⟨_, rfl⟩
        have HOF := hid (newerOf_calls x hxl wa)
        rw [hR] at HOF
        go_wp2_with fail
        refine HOF.out.mono ?_
        rintro e w3 ⟨ea, ec, rfl, hi3, hb3⟩
        have HT3 := hid (HTa.out.below hb3)
        obtain ⟨U, hU⟩ : ∃ U, w3.alloc (.cells (newerC R.2.t R.2.g0 R.2.g1 R.2.nx (.slice ea R.2.es.length ec)) 38) = U := ⟨_, rfl⟩
        have hbU : Below w3.heap.size w3 U := by rw [← hU]; exact (Below.refl _ _).alloc (Nat.le_refl _) _
        have hhU : U.heap[w3.heap.size]? = some (.cells (newerC R.2.t R.2.g0 R.2.g1 R.2.nx (.slice ea R.2.es.length ec)) 38) := by rw [← hU]; exact heap_alloc_new _ _
        have HTU := hid (HT3.out.below hbU)
        have HUE := hid hU
        obtain ⟨x0, x1, x2, x3, x4, _⟩ := five_cells hhU
        have HBY : Hid (R.1 = 0 → Calls Tryz.prog 25 #[newerV R.2.t R.2.g0 R.2.g1 R.2.nx (.slice ea R.2.es.length ec)] U fun e w' => e = .returned (.tuple #[.string ⟨x.toArray⟩, .nilIface]) ∧ Below U.heap.size U w') := fun h0 => by
          obtain ⟨hc, hfr, _, _⟩ := rdN_wrote (l := x) (s := R.2) (by rw [hR, ← h0])
          have h := bytesN_calls R.2 ea ec U (hi3.below hbU)
          rw [hc, show byN R.2 = x from (if_pos hc).trans hfr] at h
          exact h
        obtain ⟨ev, hev⟩ : ∃ ev, errV R.1 = ev := ⟨_, rfl⟩
        rw [hev]
        have HEV := hid hev
        clear hR hU hbU hhU hi3 hb3 HTa HOF HT3 c0 hev
        go_upto_region 16 with fail
        rw [HUE.out]
        clear HUE
        by_cases h0 : R.1 = 0
        · have hev0 : ev = .nilIface := by rw [← HEV.out, h0]; rfl
          subst hev0
          have HB0 := hid (HBY.out h0)
          clear HBY h0 HEV
          go_wp2_with fail
          refine HB0.out.mono ?_
          rintro e wa ⟨rfl, hba⟩
          have HTa := hid (HTU.out.below hba)
          have ca := HAT.out wa HTa.out
          clear HB0 hba HTU x0 x1 x2 x3 x4
          clear ca
          have c0 := HAT.out wa HTa.out
          obtain ⟨R, hR⟩ : ∃ R, rdT x = R := ⟨_, rfl⟩
          have HOF := hid (tapeOf_calls x hxl wa)
          unfold TapeOP at HOF
          rw [hR] at HOF
          go_wp2_with fail
          refine HOF.out.mono ?_
          rintro e w3 ⟨fa, ea, ta, fc, ec, tc, rfl, hi3, hT4, hb3, _, _⟩
          have HT3 := hid (HTa.out.below hb3)
          obtain ⟨U, hU⟩ : ∃ U, w3.alloc (.cells (tapeC R.2.1.t R.2.1.g0 R.2.1.g1 R.2.1.nx (.slice fa R.2.1.free.length fc) (.slice ea R.2.1.es.length ec) (.slice ta R.2.2.length tc)) 48) = U := ⟨_, rfl⟩
          have hbU : Below w3.heap.size w3 U := by rw [← hU]; exact (Below.refl _ _).alloc (Nat.le_refl _) _
          have hhU : U.heap[w3.heap.size]? = some (.cells (tapeC R.2.1.t R.2.1.g0 R.2.1.g1 R.2.1.nx (.slice fa R.2.1.free.length fc) (.slice ea R.2.1.es.length ec) (.slice ta R.2.2.length tc)) 48) := by rw [← hU]; exact heap_alloc_new _ _
          have HTU := hid (HT3.out.below hbU)
          have HUE := hid hU
          obtain ⟨x0, x1, x2, x3, x4, x5, x6⟩ := tape_cellsS hhU
          have HBY : Hid (R.1 = 0 → Calls Tryz.prog 26 #[tapeV R.2.1.t R.2.1.g0 R.2.1.g1 R.2.1.nx (.slice fa R.2.1.free.length fc) (.slice ea R.2.1.es.length ec) (.slice ta R.2.2.length tc)] U fun e w' => e = .returned (.tuple #[.string ⟨x.toArray⟩, .nilIface]) ∧ Below U.heap.size U w') := fun h0 => by
            obtain ⟨hc, hfr, _, hsm⟩ := rdT_wrote (l := x) (s := R.2.1) (ls := R.2.2) (by rw [hR, ← h0])
            obtain ⟨_, h60, _, _⟩ := ckT_zero hc
            have ht0 := (inv_of_check (ckT_zero hc).1).t0
            obtain ⟨ta', tc', e1, _, htk, _, _⟩ := hT4.tks
            cases e1
            have h := bytesT_calls R.2.1 fa ea ta fc ec tc R.2.2 U (hi3.below hbU) (htk.below hbU) (by omega) (fun y hy u hu j hj => (hsm y hy u hu j hj).2)
            rw [show ckTape R.2.1 R.2.2 = 0 from hc, show byT R.2.1 R.2.2 = x from (if_pos hc).trans hfr] at h
            exact h
          obtain ⟨ev, hev⟩ : ∃ ev, errV R.1 = ev := ⟨_, rfl⟩
          rw [hev]
          have HEV := hid hev
          clear hR hU hbU hhU hi3 hb3 HTa HOF HT3 c0 hev hT4
          go_upto_region 21 with fail
          rw [HUE.out]
          clear HUE
          by_cases h0 : R.1 = 0
          · have hev0 : ev = .nilIface := by rw [← HEV.out, h0]; rfl
            subst hev0
            have HB0 := hid (HBY.out h0)
            clear HBY h0 HEV
            go_wp2_with fail
            refine HB0.out.mono ?_
            rintro e wa ⟨rfl, hba⟩
            have HTa := hid (HTU.out.below hba)
            have ca := HAT.out wa HTa.out
            clear HB0 hba HTU x0 x1 x2 x3 x4 x5 x6
            clear ca
            have c0 := HAT.out wa HTa.out
            obtain ⟨R, hR⟩ : ∃ R, rdR x = R := ⟨_, rfl⟩
            have HOF := hid (reelOf_calls x hxl wa)
            unfold ReelOP at HOF
            rw [hR] at HOF
            go_wp2_with fail
            refine HOF.out.mono ?_
            rintro e w3 ⟨ea, ta, ec, tc, rfl, hi3, hT4, hb3, _⟩
            have HT3 := hid (HTa.out.below hb3)
            obtain ⟨U, hU⟩ : ∃ U, w3.alloc (.cells (reelC R.2.1.t R.2.1.g0 R.2.1.g1 R.2.1.nx (.slice ea R.2.1.es.length ec) (.slice ta R.2.2.length tc)) 55) = U := ⟨_, rfl⟩
            have hbU : Below w3.heap.size w3 U := by rw [← hU]; exact (Below.refl _ _).alloc (Nat.le_refl _) _
            have hhU : U.heap[w3.heap.size]? = some (.cells (reelC R.2.1.t R.2.1.g0 R.2.1.g1 R.2.1.nx (.slice ea R.2.1.es.length ec) (.slice ta R.2.2.length tc)) 55) := by rw [← hU]; exact heap_alloc_new _ _
            have HTU := hid (HT3.out.below hbU)
            have HUE := hid hU
            obtain ⟨x0, x1, x2, x3, x4, x5⟩ := reel_cellsS hhU
            have HBY : Hid (R.1 = 0 → Calls Tryz.prog 27 #[reelV R.2.1.t R.2.1.g0 R.2.1.g1 R.2.1.nx (.slice ea R.2.1.es.length ec) (.slice ta R.2.2.length tc)] U fun e w' => e = .returned (.tuple #[.string ⟨x.toArray⟩, .nilIface]) ∧ Below U.heap.size U w') := fun h0 => by
              obtain ⟨hc, hfr, _, hfe, hsm⟩ := rdR_wrote (l := x) (s := R.2.1) (ls := R.2.2) (by rw [hR, ← h0])
              obtain ⟨_, h60, _, _⟩ := ckT_zero hc
              have ht0 := (invN_of_check hfe (ckT_zero hc).1).t0
              obtain ⟨ta', tc', e1, _, htk, _, _⟩ := hT4.tks
              cases e1
              have h := bytesR_calls R.2.1 ea ta ec tc R.2.2 U (hi3.below hbU) (htk.below hbU) (by omega) (fun y hy u hu j hj => (hsm y hy u hu j hj).2)
              rw [show ckReel R.2.1 R.2.2 = 0 from hc, show byR R.2.1 R.2.2 = x from (if_pos hc).trans hfr] at h
              exact h
            obtain ⟨ev, hev⟩ : ∃ ev, errV R.1 = ev := ⟨_, rfl⟩
            rw [hev]
            have HEV := hid hev
            clear hR hU hbU hhU hi3 hb3 HTa HOF HT3 c0 hev hT4
            go_upto_region 26 with fail
            rw [HUE.out]
            clear HUE
            by_cases h0 : R.1 = 0
            · have hev0 : ev = .nilIface := by rw [← HEV.out, h0]; rfl
              subst hev0
              have HB0 := hid (HBY.out h0)
              clear HBY h0 HEV
              go_wp2_with fail
              refine HB0.out.mono ?_
              rintro e wa ⟨rfl, hba⟩
              have HTa := hid (HTU.out.below hba)
              have ca := HAT.out wa HTa.out
              clear HB0 hba HTU x0 x1 x2 x3 x4 x5
              go_wp2
              go_roundw
              case rel => exact ⟨k + 1, by omega, by go_num, HTa⟩
              case measure => simp [intOf]; omega
            · have hev0 : ev = .iface 112 (.int .i64 R.1) := by rw [← HEV.out, errV_pos h0]
              subst hev0
              obtain ⟨wa, rfl⟩ : ∃ wa, wa = U := ⟨_, rfl⟩
              have HTa := HTU
              have ca := HAT.out wa HTa.out
              clear HBY h0 HEV HTU x0 x1 x2 x3 x4 x5
              go_wp2
              go_roundw
              case rel => exact ⟨k + 1, by omega, by go_num, HTa⟩
              case measure => simp [intOf]; omega
          · have hev0 : ev = .iface 112 (.int .i64 R.1) := by rw [← HEV.out, errV_pos h0]
            subst hev0
            obtain ⟨wa, rfl⟩ : ∃ wa, wa = U := ⟨_, rfl⟩
            have HTa := HTU
            have ca := HAT.out wa HTa.out
            clear HBY h0 HEV HTU x0 x1 x2 x3 x4 x5 x6
            clear ca
            have c0 := HAT.out wa HTa.out
            obtain ⟨R, hR⟩ : ∃ R, rdR x = R := ⟨_, rfl⟩
            have HOF := hid (reelOf_calls x hxl wa)
            unfold ReelOP at HOF
            rw [hR] at HOF
            go_wp2_with fail
            refine HOF.out.mono ?_
            rintro e w3 ⟨ea, ta, ec, tc, rfl, hi3, hT4, hb3, _⟩
            have HT3 := hid (HTa.out.below hb3)
            obtain ⟨U, hU⟩ : ∃ U, w3.alloc (.cells (reelC R.2.1.t R.2.1.g0 R.2.1.g1 R.2.1.nx (.slice ea R.2.1.es.length ec) (.slice ta R.2.2.length tc)) 55) = U := ⟨_, rfl⟩
            have hbU : Below w3.heap.size w3 U := by rw [← hU]; exact (Below.refl _ _).alloc (Nat.le_refl _) _
            have hhU : U.heap[w3.heap.size]? = some (.cells (reelC R.2.1.t R.2.1.g0 R.2.1.g1 R.2.1.nx (.slice ea R.2.1.es.length ec) (.slice ta R.2.2.length tc)) 55) := by rw [← hU]; exact heap_alloc_new _ _
            have HTU := hid (HT3.out.below hbU)
            have HUE := hid hU
            obtain ⟨x0, x1, x2, x3, x4, x5⟩ := reel_cellsS hhU
            have HBY : Hid (R.1 = 0 → Calls Tryz.prog 27 #[reelV R.2.1.t R.2.1.g0 R.2.1.g1 R.2.1.nx (.slice ea R.2.1.es.length ec) (.slice ta R.2.2.length tc)] U fun e w' => e = .returned (.tuple #[.string ⟨x.toArray⟩, .nilIface]) ∧ Below U.heap.size U w') := fun h0 => by
              obtain ⟨hc, hfr, _, hfe, hsm⟩ := rdR_wrote (l := x) (s := R.2.1) (ls := R.2.2) (by rw [hR, ← h0])
              obtain ⟨_, h60, _, _⟩ := ckT_zero hc
              have ht0 := (invN_of_check hfe (ckT_zero hc).1).t0
              obtain ⟨ta', tc', e1, _, htk, _, _⟩ := hT4.tks
              cases e1
              have h := bytesR_calls R.2.1 ea ta ec tc R.2.2 U (hi3.below hbU) (htk.below hbU) (by omega) (fun y hy u hu j hj => (hsm y hy u hu j hj).2)
              rw [show ckReel R.2.1 R.2.2 = 0 from hc, show byR R.2.1 R.2.2 = x from (if_pos hc).trans hfr] at h
              exact h
            obtain ⟨ev, hev⟩ : ∃ ev, errV R.1 = ev := ⟨_, rfl⟩
            rw [hev]
            have HEV := hid hev
            clear hR hU hbU hhU hi3 hb3 HTa HOF HT3 c0 hev hT4
            go_upto_region 26 with fail
            rw [HUE.out]
            clear HUE
            by_cases h0 : R.1 = 0
            · have hev0 : ev = .nilIface := by rw [← HEV.out, h0]; rfl
              subst hev0
              have HB0 := hid (HBY.out h0)
              clear HBY h0 HEV
              go_wp2_with fail
              refine HB0.out.mono ?_
              rintro e wa ⟨rfl, hba⟩
              have HTa := hid (HTU.out.below hba)
              have ca := HAT.out wa HTa.out
              clear HB0 hba HTU x0 x1 x2 x3 x4 x5
              go_wp2
              go_roundw
              case rel => exact ⟨k + 1, by omega, by go_num, HTa⟩
              case measure => simp [intOf]; omega
            · have hev0 : ev = .iface 112 (.int .i64 R.1) := by rw [← HEV.out, errV_pos h0]
              subst hev0
              obtain ⟨wa, rfl⟩ : ∃ wa, wa = U := ⟨_, rfl⟩
              have HTa := HTU
              have ca := HAT.out wa HTa.out
              clear HBY h0 HEV HTU x0 x1 x2 x3 x4 x5
              go_wp2
              go_roundw
              case rel => exact ⟨k + 1, by omega, by go_num, HTa⟩
              case measure => simp [intOf]; omega
        · have hev0 : ev = .iface 112 (.int .i64 R.1) := by rw [← HEV.out, errV_pos h0]
          subst hev0
          obtain ⟨wa, rfl⟩ : ∃ wa, wa = U := ⟨_, rfl⟩
          have HTa := HTU
          have ca := HAT.out wa HTa.out
          clear HBY h0 HEV HTU x0 x1 x2 x3 x4
          clear ca
          have c0 := HAT.out wa HTa.out
          obtain ⟨R, hR⟩ : ∃ R, rdT x = R := ⟨_, rfl⟩
          have HOF := hid (tapeOf_calls x hxl wa)
          unfold TapeOP at HOF
          rw [hR] at HOF
          go_wp2_with fail
          refine HOF.out.mono ?_
          rintro e w3 ⟨fa, ea, ta, fc, ec, tc, rfl, hi3, hT4, hb3, _, _⟩
          have HT3 := hid (HTa.out.below hb3)
          obtain ⟨U, hU⟩ : ∃ U, w3.alloc (.cells (tapeC R.2.1.t R.2.1.g0 R.2.1.g1 R.2.1.nx (.slice fa R.2.1.free.length fc) (.slice ea R.2.1.es.length ec) (.slice ta R.2.2.length tc)) 48) = U := ⟨_, rfl⟩
          have hbU : Below w3.heap.size w3 U := by rw [← hU]; exact (Below.refl _ _).alloc (Nat.le_refl _) _
          have hhU : U.heap[w3.heap.size]? = some (.cells (tapeC R.2.1.t R.2.1.g0 R.2.1.g1 R.2.1.nx (.slice fa R.2.1.free.length fc) (.slice ea R.2.1.es.length ec) (.slice ta R.2.2.length tc)) 48) := by rw [← hU]; exact heap_alloc_new _ _
          have HTU := hid (HT3.out.below hbU)
          have HUE := hid hU
          obtain ⟨x0, x1, x2, x3, x4, x5, x6⟩ := tape_cellsS hhU
          have HBY : Hid (R.1 = 0 → Calls Tryz.prog 26 #[tapeV R.2.1.t R.2.1.g0 R.2.1.g1 R.2.1.nx (.slice fa R.2.1.free.length fc) (.slice ea R.2.1.es.length ec) (.slice ta R.2.2.length tc)] U fun e w' => e = .returned (.tuple #[.string ⟨x.toArray⟩, .nilIface]) ∧ Below U.heap.size U w') := fun h0 => by
            obtain ⟨hc, hfr, _, hsm⟩ := rdT_wrote (l := x) (s := R.2.1) (ls := R.2.2) (by rw [hR, ← h0])
            obtain ⟨_, h60, _, _⟩ := ckT_zero hc
            have ht0 := (inv_of_check (ckT_zero hc).1).t0
            obtain ⟨ta', tc', e1, _, htk, _, _⟩ := hT4.tks
            cases e1
            have h := bytesT_calls R.2.1 fa ea ta fc ec tc R.2.2 U (hi3.below hbU) (htk.below hbU) (by omega) (fun y hy u hu j hj => (hsm y hy u hu j hj).2)
            rw [show ckTape R.2.1 R.2.2 = 0 from hc, show byT R.2.1 R.2.2 = x from (if_pos hc).trans hfr] at h
            exact h
          obtain ⟨ev, hev⟩ : ∃ ev, errV R.1 = ev := ⟨_, rfl⟩
          rw [hev]
          have HEV := hid hev
          clear hR hU hbU hhU hi3 hb3 HTa HOF HT3 c0 hev hT4
          go_upto_region 21 with fail
          rw [HUE.out]
          clear HUE
          by_cases h0 : R.1 = 0
          · have hev0 : ev = .nilIface := by rw [← HEV.out, h0]; rfl
            subst hev0
            have HB0 := hid (HBY.out h0)
            clear HBY h0 HEV
            go_wp2_with fail
            refine HB0.out.mono ?_
            rintro e wa ⟨rfl, hba⟩
            have HTa := hid (HTU.out.below hba)
            have ca := HAT.out wa HTa.out
            clear HB0 hba HTU x0 x1 x2 x3 x4 x5 x6
            clear ca
            have c0 := HAT.out wa HTa.out
            obtain ⟨R, hR⟩ : ∃ R, rdR x = R := ⟨_, rfl⟩
            have HOF := hid (reelOf_calls x hxl wa)
            unfold ReelOP at HOF
            rw [hR] at HOF
            go_wp2_with fail
            refine HOF.out.mono ?_
            rintro e w3 ⟨ea, ta, ec, tc, rfl, hi3, hT4, hb3, _⟩
            have HT3 := hid (HTa.out.below hb3)
            obtain ⟨U, hU⟩ : ∃ U, w3.alloc (.cells (reelC R.2.1.t R.2.1.g0 R.2.1.g1 R.2.1.nx (.slice ea R.2.1.es.length ec) (.slice ta R.2.2.length tc)) 55) = U := ⟨_, rfl⟩
            have hbU : Below w3.heap.size w3 U := by rw [← hU]; exact (Below.refl _ _).alloc (Nat.le_refl _) _
            have hhU : U.heap[w3.heap.size]? = some (.cells (reelC R.2.1.t R.2.1.g0 R.2.1.g1 R.2.1.nx (.slice ea R.2.1.es.length ec) (.slice ta R.2.2.length tc)) 55) := by rw [← hU]; exact heap_alloc_new _ _
            have HTU := hid (HT3.out.below hbU)
            have HUE := hid hU
            obtain ⟨x0, x1, x2, x3, x4, x5⟩ := reel_cellsS hhU
            have HBY : Hid (R.1 = 0 → Calls Tryz.prog 27 #[reelV R.2.1.t R.2.1.g0 R.2.1.g1 R.2.1.nx (.slice ea R.2.1.es.length ec) (.slice ta R.2.2.length tc)] U fun e w' => e = .returned (.tuple #[.string ⟨x.toArray⟩, .nilIface]) ∧ Below U.heap.size U w') := fun h0 => by
              obtain ⟨hc, hfr, _, hfe, hsm⟩ := rdR_wrote (l := x) (s := R.2.1) (ls := R.2.2) (by rw [hR, ← h0])
              obtain ⟨_, h60, _, _⟩ := ckT_zero hc
              have ht0 := (invN_of_check hfe (ckT_zero hc).1).t0
              obtain ⟨ta', tc', e1, _, htk, _, _⟩ := hT4.tks
              cases e1
              have h := bytesR_calls R.2.1 ea ta ec tc R.2.2 U (hi3.below hbU) (htk.below hbU) (by omega) (fun y hy u hu j hj => (hsm y hy u hu j hj).2)
              rw [show ckReel R.2.1 R.2.2 = 0 from hc, show byR R.2.1 R.2.2 = x from (if_pos hc).trans hfr] at h
              exact h
            obtain ⟨ev, hev⟩ : ∃ ev, errV R.1 = ev := ⟨_, rfl⟩
            rw [hev]
            have HEV := hid hev
            clear hR hU hbU hhU hi3 hb3 HTa HOF HT3 c0 hev hT4
            go_upto_region 26 with fail
            rw [HUE.out]
            clear HUE
            by_cases h0 : R.1 = 0
            · have hev0 : ev = .nilIface := by rw [← HEV.out, h0]; rfl
              subst hev0
              have HB0 := hid (HBY.out h0)
              clear HBY h0 HEV
              go_wp2_with fail
              refine HB0.out.mono ?_
              rintro e wa ⟨rfl, hba⟩
              have HTa := hid (HTU.out.below hba)
              have ca := HAT.out wa HTa.out
              clear HB0 hba HTU x0 x1 x2 x3 x4 x5
              go_wp2
              go_roundw
              case rel => exact ⟨k + 1, by omega, by go_num, HTa⟩
              case measure => simp [intOf]; omega
            · have hev0 : ev = .iface 112 (.int .i64 R.1) := by rw [← HEV.out, errV_pos h0]
              subst hev0
              obtain ⟨wa, rfl⟩ : ∃ wa, wa = U := ⟨_, rfl⟩
              have HTa := HTU
              have ca := HAT.out wa HTa.out
              clear HBY h0 HEV HTU x0 x1 x2 x3 x4 x5
              go_wp2
              go_roundw
              case rel => exact ⟨k + 1, by omega, by go_num, HTa⟩
              case measure => simp [intOf]; omega
          · have hev0 : ev = .iface 112 (.int .i64 R.1) := by rw [← HEV.out, errV_pos h0]
            subst hev0
            obtain ⟨wa, rfl⟩ : ∃ wa, wa = U := ⟨_, rfl⟩
            have HTa := HTU
            have ca := HAT.out wa HTa.out
            clear HBY h0 HEV HTU x0 x1 x2 x3 x4 x5 x6
            clear ca
            have c0 := HAT.out wa HTa.out
            obtain ⟨R, hR⟩ : ∃ R, rdR x = R := ⟨_, rfl⟩
            have HOF := hid (reelOf_calls x hxl wa)
            unfold ReelOP at HOF
            rw [hR] at HOF
            go_wp2_with fail
            refine HOF.out.mono ?_
            rintro e w3 ⟨ea, ta, ec, tc, rfl, hi3, hT4, hb3, _⟩
            have HT3 := hid (HTa.out.below hb3)
            obtain ⟨U, hU⟩ : ∃ U, w3.alloc (.cells (reelC R.2.1.t R.2.1.g0 R.2.1.g1 R.2.1.nx (.slice ea R.2.1.es.length ec) (.slice ta R.2.2.length tc)) 55) = U := ⟨_, rfl⟩
            have hbU : Below w3.heap.size w3 U := by rw [← hU]; exact (Below.refl _ _).alloc (Nat.le_refl _) _
            have hhU : U.heap[w3.heap.size]? = some (.cells (reelC R.2.1.t R.2.1.g0 R.2.1.g1 R.2.1.nx (.slice ea R.2.1.es.length ec) (.slice ta R.2.2.length tc)) 55) := by rw [← hU]; exact heap_alloc_new _ _
            have HTU := hid (HT3.out.below hbU)
            have HUE := hid hU
            obtain ⟨x0, x1, x2, x3, x4, x5⟩ := reel_cellsS hhU
            have HBY : Hid (R.1 = 0 → Calls Tryz.prog 27 #[reelV R.2.1.t R.2.1.g0 R.2.1.g1 R.2.1.nx (.slice ea R.2.1.es.length ec) (.slice ta R.2.2.length tc)] U fun e w' => e = .returned (.tuple #[.string ⟨x.toArray⟩, .nilIface]) ∧ Below U.heap.size U w') := fun h0 => by
              obtain ⟨hc, hfr, _, hfe, hsm⟩ := rdR_wrote (l := x) (s := R.2.1) (ls := R.2.2) (by rw [hR, ← h0])
              obtain ⟨_, h60, _, _⟩ := ckT_zero hc
              have ht0 := (invN_of_check hfe (ckT_zero hc).1).t0
              obtain ⟨ta', tc', e1, _, htk, _, _⟩ := hT4.tks
              cases e1
              have h := bytesR_calls R.2.1 ea ta ec tc R.2.2 U (hi3.below hbU) (htk.below hbU) (by omega) (fun y hy u hu j hj => (hsm y hy u hu j hj).2)
              rw [show ckReel R.2.1 R.2.2 = 0 from hc, show byR R.2.1 R.2.2 = x from (if_pos hc).trans hfr] at h
              exact h
            obtain ⟨ev, hev⟩ : ∃ ev, errV R.1 = ev := ⟨_, rfl⟩
            rw [hev]
            have HEV := hid hev
            clear hR hU hbU hhU hi3 hb3 HTa HOF HT3 c0 hev hT4
            go_upto_region 26 with fail
            rw [HUE.out]
            clear HUE
            by_cases h0 : R.1 = 0
            · have hev0 : ev = .nilIface := by rw [← HEV.out, h0]; rfl
              subst hev0
              have HB0 := hid (HBY.out h0)
              clear HBY h0 HEV
              go_wp2_with fail
              refine HB0.out.mono ?_
              rintro e wa ⟨rfl, hba⟩
              have HTa := hid (HTU.out.below hba)
              have ca := HAT.out wa HTa.out
              clear HB0 hba HTU x0 x1 x2 x3 x4 x5
              go_wp2
              go_roundw
              case rel => exact ⟨k + 1, by omega, by go_num, HTa⟩
              case measure => simp [intOf]; omega
            · have hev0 : ev = .iface 112 (.int .i64 R.1) := by rw [← HEV.out, errV_pos h0]
              subst hev0
              obtain ⟨wa, rfl⟩ : ∃ wa, wa = U := ⟨_, rfl⟩
              have HTa := HTU
              have ca := HAT.out wa HTa.out
              clear HBY h0 HEV HTU x0 x1 x2 x3 x4 x5
              go_wp2
              go_roundw
              case rel => exact ⟨k + 1, by omega, by go_num, HTa⟩
              case measure => simp [intOf]; omega
      · have hev0 : ev = .iface 112 (.int .i64 R.1) := by rw [← HEV.out, errV_pos h0]
        subst hev0
        obtain ⟨wa, rfl⟩ : ∃ wa, wa = U := ⟨_, rfl⟩
        have HTa := HTU
        have ca := HAT.out wa HTa.out
        clear HBY h0 HEV HTU x0 x1 x2 x3 x4 x5
        clear ca
        have c0 := HAT.out wa HTa.out
        obtain ⟨R, hR⟩ : ∃ R, rdN x = R := ⟨_, rfl⟩
        have HOF := hid (newerOf_calls x hxl wa)
        rw [hR] at HOF
        go_wp2_with fail
        refine HOF.out.mono ?_
        rintro e w3 ⟨ea, ec, rfl, hi3, hb3⟩
        have HT3 := hid (HTa.out.below hb3)
        obtain ⟨U, hU⟩ : ∃ U, w3.alloc (.cells (newerC R.2.t R.2.g0 R.2.g1 R.2.nx (.slice ea R.2.es.length ec)) 38) = U := ⟨_, rfl⟩
        have hbU : Below w3.heap.size w3 U := by rw [← hU]; exact (Below.refl _ _).alloc (Nat.le_refl _) _
        have hhU : U.heap[w3.heap.size]? = some (.cells (newerC R.2.t R.2.g0 R.2.g1 R.2.nx (.slice ea R.2.es.length ec)) 38) := by rw [← hU]; exact heap_alloc_new _ _
        have HTU := hid (HT3.out.below hbU)
        have HUE := hid hU
        obtain ⟨x0, x1, x2, x3, x4, _⟩ := five_cells hhU
        have HBY : Hid (R.1 = 0 → Calls Tryz.prog 25 #[newerV R.2.t R.2.g0 R.2.g1 R.2.nx (.slice ea R.2.es.length ec)] U fun e w' => e = .returned (.tuple #[.string ⟨x.toArray⟩, .nilIface]) ∧ Below U.heap.size U w') := fun h0 => by
          obtain ⟨hc, hfr, _, _⟩ := rdN_wrote (l := x) (s := R.2) (by rw [hR, ← h0])
          have h := bytesN_calls R.2 ea ec U (hi3.below hbU)
          rw [hc, show byN R.2 = x from (if_pos hc).trans hfr] at h
          exact h
        obtain ⟨ev, hev⟩ : ∃ ev, errV R.1 = ev := ⟨_, rfl⟩
        rw [hev]
        have HEV := hid hev
        clear hR hU hbU hhU hi3 hb3 HTa HOF HT3 c0 hev
        go_upto_region 16 with fail
        rw [HUE.out]
        clear HUE
        by_cases h0 : R.1 = 0
        · have hev0 : ev = .nilIface := by rw [← HEV.out, h0]; rfl
          subst hev0
          have HB0 := hid (HBY.out h0)
          clear HBY h0 HEV
          go_wp2_with fail
          refine HB0.out.mono ?_
          rintro e wa ⟨rfl, hba⟩
          have HTa := hid (HTU.out.below hba)
          have ca := HAT.out wa HTa.out
          clear HB0 hba HTU x0 x1 x2 x3 x4
          clear ca
          have c0 := HAT.out wa HTa.out
          obtain ⟨R, hR⟩ : ∃ R, rdT x = R := ⟨_, rfl⟩
          have HOF := hid (tapeOf_calls x hxl wa)
          unfold TapeOP at HOF
          rw [hR] at HOF
          go_wp2_with fail
          refine HOF.out.mono ?_
          rintro e w3 ⟨fa, ea, ta, fc, ec, tc, rfl, hi3, hT4, hb3, _, _⟩
          have HT3 := hid (HTa.out.below hb3)
          obtain ⟨U, hU⟩ : ∃ U, w3.alloc (.cells (tapeC R.2.1.t R.2.1.g0 R.2.1.g1 R.2.1.nx (.slice fa R.2.1.free.length fc) (.slice ea R.2.1.es.length ec) (.slice ta R.2.2.length tc)) 48) = U := ⟨_, rfl⟩
          have hbU : Below w3.heap.size w3 U := by rw [← hU]; exact (Below.refl _ _).alloc (Nat.le_refl _) _
          have hhU : U.heap[w3.heap.size]? = some (.cells (tapeC R.2.1.t R.2.1.g0 R.2.1.g1 R.2.1.nx (.slice fa R.2.1.free.length fc) (.slice ea R.2.1.es.length ec) (.slice ta R.2.2.length tc)) 48) := by rw [← hU]; exact heap_alloc_new _ _
          have HTU := hid (HT3.out.below hbU)
          have HUE := hid hU
          obtain ⟨x0, x1, x2, x3, x4, x5, x6⟩ := tape_cellsS hhU
          have HBY : Hid (R.1 = 0 → Calls Tryz.prog 26 #[tapeV R.2.1.t R.2.1.g0 R.2.1.g1 R.2.1.nx (.slice fa R.2.1.free.length fc) (.slice ea R.2.1.es.length ec) (.slice ta R.2.2.length tc)] U fun e w' => e = .returned (.tuple #[.string ⟨x.toArray⟩, .nilIface]) ∧ Below U.heap.size U w') := fun h0 => by
            obtain ⟨hc, hfr, _, hsm⟩ := rdT_wrote (l := x) (s := R.2.1) (ls := R.2.2) (by rw [hR, ← h0])
            obtain ⟨_, h60, _, _⟩ := ckT_zero hc
            have ht0 := (inv_of_check (ckT_zero hc).1).t0
            obtain ⟨ta', tc', e1, _, htk, _, _⟩ := hT4.tks
            cases e1
            have h := bytesT_calls R.2.1 fa ea ta fc ec tc R.2.2 U (hi3.below hbU) (htk.below hbU) (by omega) (fun y hy u hu j hj => (hsm y hy u hu j hj).2)
            rw [show ckTape R.2.1 R.2.2 = 0 from hc, show byT R.2.1 R.2.2 = x from (if_pos hc).trans hfr] at h
            exact h
          obtain ⟨ev, hev⟩ : ∃ ev, errV R.1 = ev := ⟨_, rfl⟩
          rw [hev]
          have HEV := hid hev
          clear hR hU hbU hhU hi3 hb3 HTa HOF HT3 c0 hev hT4
          go_upto_region 21 with fail
          rw [HUE.out]
          clear HUE
          by_cases h0 : R.1 = 0
          · have hev0 : ev = .nilIface := by rw [← HEV.out, h0]; rfl
            subst hev0
            have HB0 := hid (HBY.out h0)
            clear HBY h0 HEV
            go_wp2_with fail
            refine HB0.out.mono ?_
            rintro e wa ⟨rfl, hba⟩
            have HTa := hid (HTU.out.below hba)
            have ca := HAT.out wa HTa.out
            clear HB0 hba HTU x0 x1 x2 x3 x4 x5 x6
            clear ca
            have c0 := HAT.out wa HTa.out
            obtain ⟨R, hR⟩ : ∃ R, rdR x = R := ⟨_, rfl⟩
            have HOF := hid (reelOf_calls x hxl wa)
            unfold ReelOP at HOF
            rw [hR] at HOF
            go_wp2_with fail
            refine HOF.out.mono ?_
            rintro e w3 ⟨ea, ta, ec, tc, rfl, hi3, hT4, hb3, _⟩
            have HT3 := hid (HTa.out.below hb3)
            obtain ⟨U, hU⟩ : ∃ U, w3.alloc (.cells (reelC R.2.1.t R.2.1.g0 R.2.1.g1 R.2.1.nx (.slice ea R.2.1.es.length ec) (.slice ta R.2.2.length tc)) 55) = U := ⟨_, rfl⟩
            have hbU : Below w3.heap.size w3 U := by rw [← hU]; exact (Below.refl _ _).alloc (Nat.le_refl _) _
            have hhU : U.heap[w3.heap.size]? = some (.cells (reelC R.2.1.t R.2.1.g0 R.2.1.g1 R.2.1.nx (.slice ea R.2.1.es.length ec) (.slice ta R.2.2.length tc)) 55) := by rw [← hU]; exact heap_alloc_new _ _
            have HTU := hid (HT3.out.below hbU)
            have HUE := hid hU
            obtain ⟨x0, x1, x2, x3, x4, x5⟩ := reel_cellsS hhU
            have HBY : Hid (R.1 = 0 → Calls Tryz.prog 27 #[reelV R.2.1.t R.2.1.g0 R.2.1.g1 R.2.1.nx (.slice ea R.2.1.es.length ec) (.slice ta R.2.2.length tc)] U fun e w' => e = .returned (.tuple #[.string ⟨x.toArray⟩, .nilIface]) ∧ Below U.heap.size U w') := fun h0 => by
              obtain ⟨hc, hfr, _, hfe, hsm⟩ := rdR_wrote (l := x) (s := R.2.1) (ls := R.2.2) (by rw [hR, ← h0])
              obtain ⟨_, h60, _, _⟩ := ckT_zero hc
              have ht0 := (invN_of_check hfe (ckT_zero hc).1).t0
              obtain ⟨ta', tc', e1, _, htk, _, _⟩ := hT4.tks
              cases e1
              have h := bytesR_calls R.2.1 ea ta ec tc R.2.2 U (hi3.below hbU) (htk.below hbU) (by omega) (fun y hy u hu j hj => (hsm y hy u hu j hj).2)
              rw [show ckReel R.2.1 R.2.2 = 0 from hc, show byR R.2.1 R.2.2 = x from (if_pos hc).trans hfr] at h
              exact h
            obtain ⟨ev, hev⟩ : ∃ ev, errV R.1 = ev := ⟨_, rfl⟩
            rw [hev]
            have HEV := hid hev
            clear hR hU hbU hhU hi3 hb3 HTa HOF HT3 c0 hev hT4
            go_upto_region 26 with fail
            rw [HUE.out]
            clear HUE
            by_cases h0 : R.1 = 0
            · have hev0 : ev = .nilIface := by rw [← HEV.out, h0]; rfl
              subst hev0
              have HB0 := hid (HBY.out h0)
              clear HBY h0 HEV
              go_wp2_with fail
              refine HB0.out.mono ?_
              rintro e wa ⟨rfl, hba⟩
              have HTa := hid (HTU.out.below hba)
              have ca := HAT.out wa HTa.out
              clear HB0 hba HTU x0 x1 x2 x3 x4 x5
              go_wp2
              go_roundw
              case rel => exact ⟨k + 1, by omega, by go_num, HTa⟩
              case measure => simp [intOf]; omega
            · have hev0 : ev = .iface 112 (.int .i64 R.1) := by rw [← HEV.out, errV_pos h0]
              subst hev0
              obtain ⟨wa, rfl⟩ : ∃ wa, wa = U := ⟨_, rfl⟩
              have HTa := HTU
              have ca := HAT.out wa HTa.out
              clear HBY h0 HEV HTU x0 x1 x2 x3 x4 x5
              go_wp2
              go_roundw
              case rel => exact ⟨k + 1, by omega, by go_num, HTa⟩
              case measure => simp [intOf]; omega
          · have hev0 : ev = .iface 112 (.int .i64 R.1) := by rw [← HEV.out, errV_pos h0]
            subst hev0
            obtain ⟨wa, rfl⟩ : ∃ wa, wa = U := ⟨_, rfl⟩
            have HTa := HTU
            have ca := HAT.out wa HTa.out
            clear HBY h0 HEV HTU x0 x1 x2 x3 x4 x5 x6
            clear ca
            have c0 := HAT.out wa HTa.out
            obtain ⟨R, hR⟩ : ∃ R, rdR x = R := ⟨_, rfl⟩
            have HOF := hid (reelOf_calls x hxl wa)
            unfold ReelOP at HOF
            rw [hR] at HOF
            go_wp2_with fail
            refine HOF.out.mono ?_
            rintro e w3 ⟨ea, ta, ec, tc, rfl, hi3, hT4, hb3, _⟩
            have HT3 := hid (HTa.out.below hb3)
            obtain ⟨U, hU⟩ : ∃ U, w3.alloc (.cells (reelC R.2.1.t R.2.1.g0 R.2.1.g1 R.2.1.nx (.slice ea R.2.1.es.length ec) (.slice ta R.2.2.length tc)) 55) = U := ⟨_, rfl⟩
            have hbU : Below w3.heap.size w3 U := by rw [← hU]; exact (Below.refl _ _).alloc (Nat.le_refl _) _
            have hhU : U.heap[w3.heap.size]? = some (.cells (reelC R.2.1.t R.2.1.g0 R.2.1.g1 R.2.1.nx (.slice ea R.2.1.es.length ec) (.slice ta R.2.2.length tc)) 55) := by rw [← hU]; exact heap_alloc_new _ _
            have HTU := hid (HT3.out.below hbU)
            have HUE := hid hU
            obtain ⟨x0, x1, x2, x3, x4, x5⟩ := reel_cellsS hhU
            have HBY : Hid (R.1 = 0 → Calls Tryz.prog 27 #[reelV R.2.1.t R.2.1.g0 R.2.1.g1 R.2.1.nx (.slice ea R.2.1.es.length ec) (.slice ta R.2.2.length tc)] U fun e w' => e = .returned (.tuple #[.string ⟨x.toArray⟩, .nilIface]) ∧ Below U.heap.size U w') := fun h0 => by
              obtain ⟨hc, hfr, _, hfe, hsm⟩ := rdR_wrote (l := x) (s := R.2.1) (ls := R.2.2) (by rw [hR, ← h0])
              obtain ⟨_, h60, _, _⟩ := ckT_zero hc
              have ht0 := (invN_of_check hfe (ckT_zero hc).1).t0
              obtain ⟨ta', tc', e1, _, htk, _, _⟩ := hT4.tks
              cases e1
              have h := bytesR_calls R.2.1 ea ta ec tc R.2.2 U (hi3.below hbU) (htk.below hbU) (by omega) (fun y hy u hu j hj => (hsm y hy u hu j hj).2)
              rw [show ckReel R.2.1 R.2.2 = 0 from hc, show byR R.2.1 R.2.2 = x from (if_pos hc).trans hfr] at h
              exact h
            obtain ⟨ev, hev⟩ : ∃ ev, errV R.1 = ev := ⟨_, rfl⟩
            rw [hev]
            have HEV := hid hev
            clear hR hU hbU hhU hi3 hb3 HTa HOF HT3 c0 hev hT4
            go_upto_region 26 with fail
            rw [HUE.out]
            clear HUE
            by_cases h0 : R.1 = 0
            · have hev0 : ev = .nilIface := by rw [← HEV.out, h0]; rfl
              subst hev0
              have HB0 := hid (HBY.out h0)
              clear HBY h0 HEV
              go_wp2_with fail
              refine HB0.out.mono ?_
              rintro e wa ⟨rfl, hba⟩
              have HTa := hid (HTU.out.below hba)
              have ca := HAT.out wa HTa.out
              clear HB0 hba HTU x0 x1 x2 x3 x4 x5
              go_wp2
              go_roundw
              case rel => exact ⟨k + 1, by omega, by go_num, HTa⟩
              case measure => simp [intOf]; omega
            · have hev0 : ev = .iface 112 (.int .i64 R.1) := by rw [← HEV.out, errV_pos h0]
              subst hev0
              obtain ⟨wa, rfl⟩ : ∃ wa, wa = U := ⟨_, rfl⟩
              have HTa := HTU
              have ca := HAT.out wa HTa.out
              clear HBY h0 HEV HTU x0 x1 x2 x3 x4 x5
              go_wp2
              go_roundw
              case rel => exact ⟨k + 1, by omega, by go_num, HTa⟩
              case measure => simp [intOf]; omega
        · have hev0 : ev = .iface 112 (.int .i64 R.1) := by rw [← HEV.out, errV_pos h0]
          subst hev0
          obtain ⟨wa, rfl⟩ : ∃ wa, wa = U := ⟨_, rfl⟩
          have HTa := HTU
          have ca := HAT.out wa HTa.out
          clear HBY h0 HEV HTU x0 x1 x2 x3 x4
          clear ca
          have c0 := HAT.out wa HTa.out
          obtain ⟨R, hR⟩ : ∃ R, rdT x = R := ⟨_, rfl⟩
          have HOF := hid (tapeOf_calls x hxl wa)
          unfold TapeOP at HOF
          rw [hR] at HOF
          go_wp2_with fail
          refine HOF.out.mono ?_
          rintro e w3 ⟨fa, ea, ta, fc, ec, tc, rfl, hi3, hT4, hb3, _, _⟩
          have HT3 := hid (HTa.out.below hb3)
          obtain ⟨U, hU⟩ : ∃ U, w3.alloc (.cells (tapeC R.2.1.t R.2.1.g0 R.2.1.g1 R.2.1.nx (.slice fa R.2.1.free.length fc) (.slice ea R.2.1.es.length ec) (.slice ta R.2.2.length tc)) 48) = U := ⟨_, rfl⟩
          have hbU : Below w3.heap.size w3 U := by rw [← hU]; exact (Below.refl _ _).alloc (Nat.le_refl _) _
          have hhU : U.heap[w3.heap.size]? = some (.cells (tapeC R.2.1.t R.2.1.g0 R.2.1.g1 R.2.1.nx (.slice fa R.2.1.free.length fc) (.slice ea R.2.1.es.length ec) (.slice ta R.2.2.length tc)) 48) := by rw [← hU]; exact heap_alloc_new _ _
          have HTU := hid (HT3.out.below hbU)
          have HUE := hid hU
          obtain ⟨x0, x1, x2, x3, x4, x5, x6⟩ := tape_cellsS hhU
          have HBY : Hid (R.1 = 0 → Calls Tryz.prog 26 #[tapeV R.2.1.t R.2.1.g0 R.2.1.g1 R.2.1.nx (.slice fa R.2.1.free.length fc) (.slice ea R.2.1.es.length ec) (.slice ta R.2.2.length tc)] U fun e w' => e = .returned (.tuple #[.string ⟨x.toArray⟩, .nilIface]) ∧ Below U.heap.size U w') := fun h0 => by
            obtain ⟨hc, hfr, _, hsm⟩ := rdT_wrote (l := x) (s := R.2.1) (ls := R.2.2) (by rw [hR, ← h0])
            obtain ⟨_, h60, _, _⟩ := ckT_zero hc
            have ht0 := (inv_of_check (ckT_zero hc).1).t0
            obtain ⟨ta', tc', e1, _, htk, _, _⟩ := hT4.tks
            cases e1
            have h := bytesT_calls R.2.1 fa ea ta fc ec tc R.2.2 U (hi3.below hbU) (htk.below hbU) (by omega) (fun y hy u hu j hj => (hsm y hy u hu j hj).2)
            rw [show ckTape R.2.1 R.2.2 = 0 from hc, show byT R.2.1 R.2.2 = x from (if_pos hc).trans hfr] at h
            exact h
          obtain ⟨ev, hev⟩ : ∃ ev, errV R.1 = ev := ⟨_, rfl⟩
          rw [hev]
          have HEV := hid hev
          clear hR hU hbU hhU hi3 hb3 HTa HOF HT3 c0 hev hT4
          go_upto_region 21 with fail
          rw [HUE.out]
          clear HUE
          by_cases h0 : R.1 = 0
          · have hev0 : ev = .nilIface := by rw [← HEV.out, h0]; rfl
            subst hev0
            have HB0 := hid (HBY.out h0)
            clear HBY h0 HEV
            go_wp2_with fail
            refine HB0.out.mono ?_
            rintro e wa ⟨rfl, hba⟩
            have HTa := hid (HTU.out.below hba)
            have ca := HAT.out wa HTa.out
            clear HB0 hba HTU x0 x1 x2 x3 x4 x5 x6
            clear ca
            have c0 := HAT.out wa HTa.out
            obtain ⟨R, hR⟩ : ∃ R, rdR x = R := ⟨_, rfl⟩
            have HOF := hid (reelOf_calls x hxl wa)
            unfold ReelOP at HOF
            rw [hR] at HOF
            go_wp2_with fail
            refine HOF.out.mono ?_
            rintro e w3 ⟨ea, ta, ec, tc, rfl, hi3, hT4, hb3, _⟩
            have HT3 := hid (HTa.out.below hb3)
            obtain ⟨U, hU⟩ : ∃ U, w3.alloc (.cells (reelC R.2.1.t R.2.1.g0 R.2.1.g1 R.2.1.nx (.slice ea R.2.1.es.length ec) (.slice ta R.2.2.length tc)) 55) = U := ⟨_, rfl⟩
            have hbU : Below w3.heap.size w3 U := by rw [← hU]; exact (Below.refl _ _).alloc (Nat.le_refl _) _
            have hhU : U.heap[w3.heap.size]? = some (.cells (reelC R.2.1.t R.2.1.g0 R.2.1.g1 R.2.1.nx (.slice ea R.2.1.es.length ec) (.slice ta R.2.2.length tc)) 55) := by rw [← hU]; exact heap_alloc_new _ _
            have HTU := hid (HT3.out.below hbU)
            have HUE := hid hU
            obtain ⟨x0, x1, x2, x3, x4, x5⟩ := reel_cellsS hhU
            have HBY : Hid (R.1 = 0 → Calls Tryz.prog 27 #[reelV R.2.1.t R.2.1.g0 R.2.1.g1 R.2.1.nx (.slice ea R.2.1.es.length ec) (.slice ta R.2.2.length tc)] U fun e w' => e = .returned (.tuple #[.string ⟨x.toArray⟩, .nilIface]) ∧ Below U.heap.size U w') := fun h0 => by
              obtain ⟨hc, hfr, _, hfe, hsm⟩ := rdR_wrote (l := x) (s := R.2.1) (ls := R.2.2) (by rw [hR, ← h0])
              obtain ⟨_, h60, _, _⟩ := ckT_zero hc
              have ht0 := (invN_of_check hfe (ckT_zero hc).1).t0
              obtain ⟨ta', tc', e1, _, htk, _, _⟩ := hT4.tks
              cases e1
              have h := bytesR_calls R.2.1 ea ta ec tc R.2.2 U (hi3.below hbU) (htk.below hbU) (by omega) (fun y hy u hu j hj => (hsm y hy u hu j hj).2)
              rw [show ckReel R.2.1 R.2.2 = 0 from hc, show byR R.2.1 R.2.2 = x from (if_pos hc).trans hfr] at h
              exact h
            obtain ⟨ev, hev⟩ : ∃ ev, errV R.1 = ev := ⟨_, rfl⟩
            rw [hev]
            have HEV := hid hev
            clear hR hU hbU hhU hi3 hb3 HTa HOF HT3 c0 hev hT4
            go_upto_region 26 with fail
            rw [HUE.out]
            clear HUE
            by_cases h0 : R.1 = 0
            · have hev0 : ev = .nilIface := by rw [← HEV.out, h0]; rfl
              subst hev0
              have HB0 := hid (HBY.out h0)
              clear HBY h0 HEV
              go_wp2_with fail
              refine HB0.out.mono ?_
              rintro e wa ⟨rfl, hba⟩
              have HTa := hid (HTU.out.below hba)
              have ca := HAT.out wa HTa.out
              clear HB0 hba HTU x0 x1 x2 x3 x4 x5
              go_wp2
              go_roundw
              case rel => exact ⟨k + 1, by omega, by go_num, HTa⟩
              case measure => simp [intOf]; omega
            · have hev0 : ev = .iface 112 (.int .i64 R.1) := by rw [← HEV.out, errV_pos h0]
              subst hev0
              obtain ⟨wa, rfl⟩ : ∃ wa, wa = U := ⟨_, rfl⟩
              have HTa := HTU
              have ca := HAT.out wa HTa.out
              clear HBY h0 HEV HTU x0 x1 x2 x3 x4 x5
              go_wp2
              go_roundw
              case rel => exact ⟨k + 1, by omega, by go_num, HTa⟩
              case measure => simp [intOf]; omega
          · have hev0 : ev = .iface 112 (.int .i64 R.1) := by rw [← HEV.out, errV_pos h0]
            subst hev0
            obtain ⟨wa, rfl⟩ : ∃ wa, wa = U := ⟨_, rfl⟩
            have HTa := HTU
            have ca := HAT.out wa HTa.out
            clear HBY h0 HEV HTU x0 x1 x2 x3 x4 x5 x6
            clear ca
            have c0 := HAT.out wa HTa.out
            obtain ⟨R, hR⟩ : ∃ R, rdR x = R := ⟨_, rfl⟩
            have HOF := hid (reelOf_calls x hxl wa)
            unfold ReelOP at HOF
            rw [hR] at HOF
            go_wp2_with fail
            refine HOF.out.mono ?_
            rintro e w3 ⟨ea, ta, ec, tc, rfl, hi3, hT4, hb3, _⟩
            have HT3 := hid (HTa.out.below hb3)
            obtain ⟨U, hU⟩ : ∃ U, w3.alloc (.cells (reelC R.2.1.t R.2.1.g0 R.2.1.g1 R.2.1.nx (.slice ea R.2.1.es.length ec) (.slice ta R.2.2.length tc)) 55) = U := ⟨_, rfl⟩
            have hbU : Below w3.heap.size w3 U := by rw [← hU]; exact (Below.refl _ _).alloc (Nat.le_refl _) _
            have hhU : U.heap[w3.heap.size]? = some (.cells (reelC R.2.1.t R.2.1.g0 R.2.1.g1 R.2.1.nx (.slice ea R.2.1.es.length ec) (.slice ta R.2.2.length tc)) 55) := by rw [← hU]; exact heap_alloc_new _ _
            have HTU := hid (HT3.out.below hbU)
            have HUE := hid hU
            obtain ⟨x0, x1, x2, x3, x4, x5⟩ := reel_cellsS hhU
            have HBY : Hid (R.1 = 0 → Calls Tryz.prog 27 #[reelV R.2.1.t R.2.1.g0 R.2.1.g1 R.2.1.nx (.slice ea R.2.1.es.length ec) (.slice ta R.2.2.length tc)] U fun e w' => e = .returned (.tuple #[.string ⟨x.toArray⟩, .nilIface]) ∧ Below U.heap.size U w') := fun h0 => by
              obtain ⟨hc, hfr, _, hfe, hsm⟩ := rdR_wrote (l := x) (s := R.2.1) (ls := R.2.2) (by rw [hR, ← h0])
              obtain ⟨_, h60, _, _⟩ := ckT_zero hc
              have ht0 := (invN_of_check hfe (ckT_zero hc).1).t0
              obtain ⟨ta', tc', e1, _, htk, _, _⟩ := hT4.tks
              cases e1
              have h := bytesR_calls R.2.1 ea ta ec tc R.2.2 U (hi3.below hbU) (htk.below hbU) (by omega) (fun y hy u hu j hj => (hsm y hy u hu j hj).2)
              rw [show ckReel R.2.1 R.2.2 = 0 from hc, show byR R.2.1 R.2.2 = x from (if_pos hc).trans hfr] at h
              exact h
            obtain ⟨ev, hev⟩ : ∃ ev, errV R.1 = ev := ⟨_, rfl⟩
            rw [hev]
            have HEV := hid hev
            clear hR hU hbU hhU hi3 hb3 HTa HOF HT3 c0 hev hT4
            go_upto_region 26 with fail
            rw [HUE.out]
            clear HUE
            by_cases h0 : R.1 = 0
            · have hev0 : ev = .nilIface := by rw [← HEV.out, h0]; rfl
              subst hev0
              have HB0 := hid (HBY.out h0)
              clear HBY h0 HEV
              go_wp2_with fail
              refine HB0.out.mono ?_
              rintro e wa ⟨rfl, hba⟩
              have HTa := hid (HTU.out.below hba)
              have ca := HAT.out wa HTa.out
              clear HB0 hba HTU x0 x1 x2 x3 x4 x5
              go_wp2
              go_roundw
              case rel => exact ⟨k + 1, by omega, by go_num, HTa⟩
              case measure => simp [intOf]; omega
            · have hev0 : ev = .iface 112 (.int .i64 R.1) := by rw [← HEV.out, errV_pos h0]
              subst hev0
              obtain ⟨wa, rfl⟩ : ∃ wa, wa = U := ⟨_, rfl⟩
              have HTa := HTU
              have ca := HAT.out wa HTa.out
              clear HBY h0 HEV HTU x0 x1 x2 x3 x4 x5
              go_wp2
              go_roundw
              case rel => exact ⟨k + 1, by omega, by go_num, HTa⟩
              case measure => simp [intOf]; omega
    · have hltz : ¬ (k : Int) < 2 := by omega
      have HF : Hid (Below w.heap.size w wr) := HBV.out.trans (HT.out.1.mono HBV.out.size)
      clear HT
      go_wp2
      go_ret
      exact ⟨rfl, HF.out⟩
end Go.Proofs.YtgiieepfhohmhabGreat
