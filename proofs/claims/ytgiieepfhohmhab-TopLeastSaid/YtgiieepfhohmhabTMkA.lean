/- The marks of a play. -/
import Derived.ChangeKeysEq
import Derived.Test.YtgiieepfhohmhabTMemA
import Derived.Test.YtgiieepfhohmhabTSt
import Derived.Test.YtgiieepfhohmhabTPlyB
import Derived.Test.YtgiieepfhohmhabTEsBA
import Derived.Test.YtgiieepfhohmhabTVwN
import Derived.Test.YtgiieepfhohmhabTLsB
import Derived.Test.YtgiieepfhohmhabTPlyQ
import Derived.Test.YtgiieepfhohmhabTVwJ
import Derived.Test.YtgiieepfhohmhabTVwL
namespace Go.Proofs.Ytgiieepfhohmhab
open Go.RowKit Go.Maps
def MRow (base : Nat) (w : World) (v : Value) (zs : List Int) : Prop := w.ownsRow base 30 1 v zs.length (zs.map (Value.int .u64))
theorem MRow.open {base : Nat} {w : World} {v : Value} {zs : List Int} (h : MRow base w v zs) : ∃ ea c, v = .slice ea zs.length c ∧ zs.length ≤ c ∧ Marks w ea zs ∧ (0 < zs.length → ∃ g, ea = some ⟨g, 0, none⟩ ∧ base ≤ g ∧ g < w.heap.size) := by
  have h' := h
  rcases h.2 with ⟨rfl, h0⟩ | ⟨g, cap, cur, rfl, hb, hg, hn, hm, hs, ht⟩
  · refine ⟨none, 0, by rw [h0], by omega, Or.inl (List.eq_nil_of_length_eq_zero h0), fun h => by omega⟩
  · refine ⟨some ⟨g, 0, none⟩, cap, rfl, hn, Or.inr ⟨g, 0, rfl, fun i hi => ?_⟩, fun _ => ⟨g, rfl, hb, (Array.getElem?_eq_some_iff.1 hg).1⟩⟩
    rw [Nat.zero_add, World.ownsRow.cellAt h' _ (by omega), List.getElem?_map]
    simp [zAt, List.getD_eq_getElem?_getD, hi]
theorem info_u64 : (Try.prog.info? 30).map (fun i => (i.zero, i.size, i.bytes)) = some (some (.int .u64 0), 1, 8) := by kernel_rfl
theorem u64s_one (zs : List Int) : ∀ v ∈ zs.map (Value.int .u64), v.oneCell' = true := by
  intro v hv
  obtain ⟨z, _, rfl⟩ := List.mem_map.1 hv
  rfl
theorem markRun (w : World) (base : Nat) (ty : TypeId) (v : Value) (zs : List Int) (hown : MRow base w v zs) (xa : Option Addr) (xc : Nat) (xs : List Int) (hx : Marks w xa xs) (hnil : xa = none → xc = 0)
    (hlen : zs.length + xs.length ≤ 100000) (hbase : base ≤ w.heap.size) :
    ∃ v' w', (Builtin.append_ #[23, 23] ty #[v, .slice xa xs.length xc]).run Try.prog w = .ok v' w' ∧ MRow base w' v' (zs ++ xs) ∧ w.grownBy w' v.ownBlock ∧ (v'.ownBlock = v.ownBlock ∨ v'.ownBlock = some w.heap.size) := by
  obtain ⟨i0, hi, hz0, hz1, hz2⟩ := info_parts info_u64
  rcases xa with _ | ad
  · have hx0 : xs = [] := by
      rcases hx with h | ⟨b, o, h, _⟩
      · exact h
      · cases h
    subst hx0
    rw [hnil rfl]
    have hrun := run_append_owned_none (P := Try.prog) (w := w) base 23 ty 30 i0 1 Try.underlying23 hi v _ _ hown
    refine ⟨v, w, hrun, by rw [List.append_nil]; exact hown, ⟨rfl, rfl, rfl, Nat.le_refl _, fun _ _ _ => rfl⟩, Or.inl rfl⟩
  · have hsrc : ∀ j u, (xs.map (Value.int .u64))[j]? = some u → w.cell? (ad.add j) = some u := by
      rcases hx with h | ⟨b', o', h, hc⟩
      · subst h
        intro j u hj
        simp at hj
      · cases h
        intro j u hj
        rw [List.getElem?_map] at hj
        by_cases hl : j < xs.length
        · rw [add_off, hc j hl]
          simp [zAt, List.getD_eq_getElem?_getD, hl] at hj ⊢
          exact hj
        · simp [hl] at hj
    obtain ⟨v', w', hr, h2, h3, h4, h5⟩ := run_append_own_at (P := Try.prog) w base 23 ty 30 i0 (.int .u64 0) 1 8 Try.underlying23 hi hz0 hz1 hz2 rfl (by decide) v _ _ hown ad xs.length xc (xs.map (Value.int .u64)) (by simp) hsrc (u64s_one xs) (by unfold maxLen; omega) (by omega) hbase
    refine ⟨v', w', hr, ?_, h3, h5⟩
    unfold MRow
    rw [List.length_append, List.map_append]
    exact h2
theorem wp_marks {ops : Array Oper} {rest : List Oper} {o : Oper} {a : Act} {Q : Exit → Act → World → Prop} (w : World) (hgd : o.guard = none) (s x : Operand)
    (ho : o.op = .call { callee := .builtin .append, args := #[s, x], argTypes := #[23, 23] }) (base : Nat) (v : Value) (es : List Int) (hs : a.eval s = v) (hown : MRow base w v es)
    (xa : Option Addr) (xc : Nat) (xs : List Int) (hxe : a.eval x = .slice xa xs.length xc) (hx : Marks w xa xs) (hnil : xa = none → xc = 0) (hlen : es.length + xs.length ≤ 100000) (hbase : base ≤ w.heap.size)
    (h : ∀ v' w', MRow base w' v' (es ++ xs) → w.grownBy w' v.ownBlock → (v'.ownBlock = v.ownBlock ∨ v'.ownBlock = some w.heap.size) → wpList Try.prog ops Q rest (a.put o.dst v') w') : wpList Try.prog ops Q (o :: rest) a w := by
  refine wpList_plain hgd fun K hK => ?_
  obtain ⟨v', w', hr, h2, h3, h4⟩ := markRun w base o.type v es hown xa xc xs hx hnil hlen hbase
  unfold Oper.wp execOp
  simp only [ho, resolve, invoke, builtin, Sem.run_bind, Sem.run_pure, Result.andThen_ok, List.map_toArray, List.map_cons, List.map_nil, hs, hxe, hr]
  exact hK _ _ (h v' w' h2 h3 h4)
theorem marks_one (w : World) (x : Int) (t : TypeId) : Marks (w.alloc (.cells #[.int .u64 x] t)) (some ⟨w.heap.size, 0, none⟩) [x] := by
  refine Or.inr ⟨w.heap.size, 0, rfl, fun i hi => ?_⟩
  have h0 : i = 0 := by simpa using hi
  subst h0
  rw [World.cell?_alloc_at _ _ _ _ rfl]
  rfl
def MarksP (n : Nat) (w : World) (e : Ending) (w' : World) : Prop := ∃ v zs, e = .returned v ∧ zs.length = n ∧ MRow w.heap.size w' v zs ∧ Below w.heap.size w w'
set_option maxRecDepth 100000 in
set_option maxHeartbeats 4000000 in
theorem marks_calls (s : St) (fa ea ta : Option Addr) (fc ec tc : Nat) (ls : List (List (List Int))) (w : World) (h : InE w s fa ea fc ec) (ht : Tks w ta ls) (htc : ls.length ≤ tc) (hls : ls.length ≤ 1000) :
    Calls Try.prog 11 #[tapeV s.t s.g0 s.g1 s.nx (.slice fa s.free.length fc) (.slice ea s.es.length ec) (.slice ta ls.length tc)] w (MarksP (ls.length + 1) w) := by
  obtain ⟨W, hW⟩ : ∃ W, w.alloc (.cells (tapeC s.t s.g0 s.g1 s.nx (.slice fa s.free.length fc) (.slice ea s.es.length ec) (.slice ta ls.length tc)) 39) = W := ⟨_, rfl⟩
  have hbW : Below w.heap.size w W := by rw [← hW]; exact (Below.refl _ w).alloc (Nat.le_refl _) _
  have hh : W.heap[w.heap.size]? = some (.cells (tapeC s.t s.g0 s.g1 s.nx (.slice fa s.free.length fc) (.slice ea s.es.length ec) (.slice ta ls.length tc)) 39) := by rw [← hW]; exact heap_alloc_new w _
  have hsz : w.heap.size < W.heap.size := (Array.getElem?_eq_some_iff.1 hh).1
  have HIN := hid (h.below hbW)
  have HT := hid (ht.below hbW)
  have HBW := hid hbW
  have HH := hid hh
  have HWE := hid hW
  clear h ht hbW hh hW
  go_enter Try.func11, Try.ntmps11
  go_wp2
  rw [HWE.out]
  go_loopw [3, 4] (fun s3 s4 wr => ∃ (k : Nat) (v : Value) (zs : List Int), k ≤ ls.length + 1 ∧ s3 = v ∧ s4 = .int .i64 k ∧ Hid (zs.length = k ∧ MRow W.heap.size wr v zs ∧ Below W.heap.size W wr)) (fun _ s4 _ => ls.length + 1 - (intOf s4).toNat)
  case atStart => exact ⟨0, _, [], Nat.zero_le _, rfl, rfl, rfl, World.ownsRow_nil _ _ _ _, Below.refl _ _⟩
  case round =>
    obtain ⟨k, v, zs, hk, hv3, rfl, HM⟩ := hrel
    subst hv3
    have hb := HM.out.2.2
    by_cases hkl : k ≤ ls.length
    · have hkz : (k : Int) ≤ (ls.length : Int) := by omega
      obtain ⟨x0, x1, x2, x3, x4, x5, x6⟩ := tape_cells ((hb.block _ hsz).trans HH.out)
      have HP := hid (playQ_all s fa ea ta fc ec tc ls k wr (HIN.out.below hb) (HT.out.below hb) htc hls)
      have hsr := hb.size
      clear hb
      go_wp2_with fail
      refine HP.out.mono ?_
      rintro e w2 ⟨fa2, ea2, fc2, ec2, rfl, hin2, hb2⟩
      clear HP x0 x1 x2 x3 x4 x5 x6
      generalize playC s ls k = r at hin2
      obtain ⟨c, r⟩ := r
      obtain ⟨cv, hcv⟩ : ∃ cv, errV c = cv := ⟨_, rfl⟩
      simp only [hcv] at hin2 ⊢
      obtain ⟨U, hU⟩ : ∃ U, w2.alloc (.cells #[.int .i64 r.t, .int .i64 r.g0, .int .i64 r.g1, .int .i64 r.nx, .slice fa2 r.free.length fc2, .slice ea2 r.es.length ec2] 36) = U := ⟨_, rfl⟩
      have hbU : Below w2.heap.size w2 U := by rw [← hU]; exact (Below.refl _ _).alloc (Nat.le_refl _) _
      have hhU : U.heap[w2.heap.size]? = some (.cells #[.int .i64 r.t, .int .i64 r.g0, .int .i64 r.g1, .int .i64 r.nx, .slice fa2 r.free.length fc2, .slice ea2 r.es.length ec2] 36) := by rw [← hU]; exact heap_alloc_new _ _
      obtain ⟨u0, u1, u2, u3, u4, u5⟩ := elder_cells hhU
      have HBU : Hid (Below wr.heap.size wr U) := hb2.trans (hbU.mono hb2.size)
      have HV := hid (viewE_all sort_lays rfl rfl sort_none r fa2 ea2 fc2 ec2 U (hin2.below hbU))
      have HUE := hid hU
      clear hin2 hb2 hbU hhU hU hcv
      go_wp2_with fail
      rw [HUE.out]
      refine HV.out.mono ?_
      rintro e w3 ⟨va, vc, rfl, hr3, hb3⟩
      clear HV HUE u0 u1 u2 u3 u4 u5
      have hvl := vwE_len r
      generalize vwE r = vv at hr3 hvl
      obtain ⟨dv, hdv⟩ : ∃ dv, errV (checkE r.t r.g0 r.g1 r.nx r.free r.es) = dv := ⟨_, rfl⟩
      rw [hdv]
      clear hdv
      obtain ⟨X, hX⟩ : ∃ X, w3.alloc (.cells #[.int .i64 vv.t, .int .i64 vv.g0, .int .i64 vv.g1, .slice va vv.ss.length vc] 57) = X := ⟨_, rfl⟩
      have hbX : Below w3.heap.size w3 X := by rw [← hX]; exact (Below.refl _ _).alloc (Nat.le_refl _) _
      have hhX : X.heap[w3.heap.size]? = some (.cells #[.int .i64 vv.t, .int .i64 vv.g0, .int .i64 vv.g1, .slice va vv.ss.length vc] 57) := by rw [← hX]; exact heap_alloc_new _ _
      obtain ⟨y0, y1, y2, y3, _⟩ := four_cells hhX
      have HBX : Hid (Below wr.heap.size wr X) := (HBU.out.trans (hb3.mono HBU.out.size)).trans (hbX.mono (Nat.le_trans HBU.out.size hb3.size))
      have HMK := hid (mark_calls vv.t vv.g0 vv.g1 vv.ss va vc X (hr3.below hbX) (by omega))
      have HXE := hid hX
      clear hr3 hb3 hbX hhX hX HBU
      go_wp2_with fail
      rw [HXE.out]
      refine HMK.out.mono ?_
      rintro e w4 ⟨rfl, hb4⟩
      clear HMK HXE y0 y1 y2 y3
      generalize markZ vv.t vv.g0 vv.g1 vv.ss = z
      have HB4 : Hid (Below wr.heap.size wr w4) := HBX.out.trans (hb4.mono HBX.out.size)
      have HO4 : Hid (MRow W.heap.size w4 _ zs) := row_below HM.out.2.1 HB4.out
      have HL := hid HM.out.1
      have HBr := hid HM.out.2.2
      have hs4 := HB4.out.size
      clear hb4 HBX
      go_wp2_with (at_builtin; refine wp_marks _ rfl _ _ rfl W.heap.size _ _ rfl (World.ownsRow.alloc HO4.out _) (some ⟨w4.heap.size, 0, none⟩) 1 [z] rfl (marks_one w4 z _) (by simp) (by rw [HL.out]; show k + 1 ≤ 100000; omega) (by simp [go_sem]; omega) ?_
                   intro v9 w9 hr9 hg9 hl9
                   have HB9 : Hid (Below W.heap.size W w9) := ((HBr.out.trans (HB4.out.mono hsr)).alloc (Nat.le_trans hsr hs4) _).grown hg9 (by simp; omega) (fun k hk => (World.ownsRow.lt HO4.out k hk).1)
                   have HR9 := hid hr9
                   clear hr9 hg9 hl9)
      go_roundw
      case rel => exact ⟨k + 1, _, zs ++ [z], by omega, rfl, by go_num, by rw [List.length_append, HL.out]; rfl, HR9.out, HB9.out⟩
      case measure => simp [intOf]; omega
    · have hkz : ¬ (k : Int) ≤ (ls.length : Int) := by omega
      obtain ⟨x0, x1, x2, x3, x4, x5, x6⟩ := tape_cells ((hb.block _ hsz).trans HH.out)
      have HL : Hid (zs.length = ls.length + 1) := by show _ = _; have := HM.out.1; omega
      have HO : Hid (MRow w.heap.size wr _ zs) := own_mono HM.out.2.1 (show w.heap.size ≤ W.heap.size by omega)
      have HB : Hid (Below w.heap.size w wr) := HBW.out.trans (hb.mono (by omega))
      clear hb HM
      go_wp2
      go_ret
      exact ⟨_, zs, rfl, HL.out, HO.out, HB.out⟩
end Go.Proofs.Ytgiieepfhohmhab
