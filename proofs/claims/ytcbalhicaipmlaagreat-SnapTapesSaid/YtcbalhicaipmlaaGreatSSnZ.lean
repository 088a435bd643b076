/- Package snap: ticks of orders are read and written. -/
import Derived.Test.YtcbalhicaipmlaaGreatSNwK
import Derived.Test.YtcbalhicaipmlaaGreatSSnB
import Derived.Test.YtcbalhicaipmlaaGreatSCkC
import Derived.Test.YtcbalhicaipmlaaGreatSEsNA
import Derived.Test.YtcbalhicaipmlaaGreatSSnU
import Derived.Test.YtcbalhicaipmlaaGreatSSnW
namespace Go.Proofs.YtcbalhicaipmlaaGreat
open Go.RowKit
def RowTO (base : Nat) (w : World) (v : Value) (vs : List Value) : Prop := w.ownsRow base 78 1 v vs.length vs
theorem info_ords : (Tryz.prog.info? 78).map (fun i => (i.zero, i.size, i.bytes)) = some (some (.slice none 0 0), 1, 24) := by kernel_rfl
theorem wp_rowsTO {ops : Array Oper} {rest : List Oper} {o : Oper} {a : Act} {Q : Exit → Act → World → Prop} (w : World) (hgd : o.guard = none) (s x : Operand)
    (ho : o.op = .call { callee := .builtin .append, args := #[s, x], argTypes := #[33, 33] }) (base : Nat) (v : Value) (vs : List Value) (hs : a.eval s = v) (hown : RowTO base w v vs)
    (ad : Addr) (xa : Option Addr) (n c : Nat) (hxe : a.eval x = .slice (some ad) 1 1) (hx : w.cell? (ad.add 0) = some (.slice xa n c)) (hlen : vs.length + 1 ≤ 100000) (hbase : base ≤ w.heap.size)
    (h : ∀ v' w', RowTO base w' v' (vs ++ [.slice xa n c]) → w.grownBy w' v.ownBlock → (v'.ownBlock = v.ownBlock ∨ v'.ownBlock = some w.heap.size) → wpList Tryz.prog ops Q rest (a.put o.dst v') w') : wpList Tryz.prog ops Q (o :: rest) a w := by
  refine wpList_plain hgd fun K hK => ?_
  obtain ⟨i0, hi, hz0, hz1, hz2⟩ := info_parts info_ords
  have hsrc : ∀ j u, [Value.slice xa n c][j]? = some u → w.cell? (ad.add j) = some u := by
    intro j u hj
    cases j with
    | zero => simp at hj; rw [← hj]; exact hx
    | succ j => simp at hj
  obtain ⟨v', w', hr, h2, h3, h4, h5⟩ := run_append_own_at (P := Tryz.prog) w base 33 o.type 78 i0 (.slice none 0 0) 1 24 Tryz.underlying33 hi hz0 hz1 hz2 rfl (by decide) v _ _ hown ad 1 1 [.slice xa n c] rfl hsrc (fun v hv => by rw [List.mem_singleton.1 hv]; rfl) (by unfold maxLen; omega) (by omega) hbase
  unfold Oper.wp execOp
  simp only [ho, resolve, invoke, builtin, Sem.run_bind, Sem.run_pure, Result.andThen_ok, List.map_toArray, List.map_cons, List.map_nil, hs, hxe, hr]
  refine hK _ _ (h v' w' ?_ h3 h5)
  unfold RowTO
  rw [List.length_append]
  exact h2
def TksRO (B : Nat) (w : World) (v : Value) (ls : List (List (List Int))) : Prop :=
  ∃ vs : List Value, vs.length = ls.length ∧ RowTO B w v vs ∧ ∀ i, i < ls.length → ∃ la lc, vs[i]? = some (.slice la (ls.getD i []).length lc) ∧ Recs w la 6 (ls.getD i []) ∧ (ls.getD i [] = [] ∨ ∃ b, la = some ⟨b, 0, none⟩ ∧ B ≤ b ∧ b < w.heap.size ∧ v.ownBlock ≠ some b)
theorem TksRO.same {B : Nat} {w w' : World} {v : Value} {ls : List (List (List Int))} (h : TksRO B w v ls) (hs : w.heap.size ≤ w'.heap.size) (hk : ∀ k, B ≤ k → k < w.heap.size → w'.heap[k]? = w.heap[k]?) : TksRO B w' v ls := by
  obtain ⟨vs, hl, hr, hi⟩ := h
  refine ⟨vs, hl, row_other hr (fun g hg => hk g (World.ownsRow.lt hr g hg).1 (World.ownsRow.lt hr g hg).2), fun i hil => ?_⟩
  obtain ⟨la, lc, h1, h2, h3⟩ := hi i hil
  refine ⟨la, lc, h1, ?_, ?_⟩
  · rcases h3 with h3 | ⟨b, rfl, hB, hb, _⟩
    · exact Or.inl h3
    · exact recs_same h2 (hk b hB hb)
  · rcases h3 with h3 | ⟨b, hla, hB, hb, hv⟩
    · exact Or.inl h3
    · exact Or.inr ⟨b, hla, hB, Nat.lt_of_lt_of_le hb hs, hv⟩
theorem TksRO.snoc {B B' : Nat} {w w1 w' : World} {v v' lv : Value} {ls : List (List (List Int))} {l : List (List Int)} {la : Option Addr} {lc : Nat} {vs : List Value} (hl : vs.length = ls.length)
    (hi : ∀ i, i < ls.length → ∃ la lc, vs[i]? = some (.slice la (ls.getD i []).length lc) ∧ Recs w la 6 (ls.getD i []) ∧ (ls.getD i [] = [] ∨ ∃ b, la = some ⟨b, 0, none⟩ ∧ B ≤ b ∧ b < w.heap.size ∧ v.ownBlock ≠ some b))
    (hv : RowTO B w v vs) (hlv : lv = .slice la l.length lc) (hrow : RowO B' w lv l) (hB : B ≤ B') (hb1 : Below w.heap.size w w1) (hR : RowTO B w' v' (vs ++ [.slice la l.length lc])) (hg : w1.grownBy w' v.ownBlock) (ho : v'.ownBlock = v.ownBlock ∨ v'.ownBlock = some w1.heap.size) : TksRO B w' v' (ls ++ [l]) := by
  have hs1 := hb1.size
  have old : ∀ b, b < w.heap.size → v.ownBlock ≠ some b → w'.heap[b]? = w.heap[b]? ∧ v'.ownBlock ≠ some b := fun b hb hne => by
    refine ⟨(hg.block b (by omega) (Ne.symm hne)).trans (hb1.block b hb), ?_⟩
    rcases ho with e | e
    · rw [e]; exact hne
    · rw [e]; intro h; cases h; omega
  refine ⟨vs ++ [.slice la l.length lc], by simp [hl], hR, fun i hil => ?_⟩
  rw [List.length_append, List.length_singleton] at hil
  by_cases h : i < ls.length
  · obtain ⟨ma, mc, h1, h2, h3⟩ := hi i h
    have eg : (ls ++ [l]).getD i [] = ls.getD i [] := by rw [List.getD_eq_getElem?_getD, List.getD_eq_getElem?_getD, List.getElem?_append_left h]
    rw [eg]
    refine ⟨ma, mc, by rw [List.getElem?_append_left (by omega)]; exact h1, ?_, ?_⟩
    · rcases h3 with h3 | ⟨b, rfl, _, hb, hne⟩
      · exact Or.inl h3
      · exact recs_same h2 (old b hb hne).1
    · rcases h3 with h3 | ⟨b, hla, hBb, hb, hne⟩
      · exact Or.inl h3
      · exact Or.inr ⟨b, hla, hBb, by have := hg.size; omega, (old b hb hne).2⟩
  · have he : i = ls.length := by omega
    subst he
    have eg : (ls ++ [l]).getD ls.length [] = l := by rw [List.getD_eq_getElem?_getD, List.getElem?_append_right (Nat.le_refl _), Nat.sub_self]; rfl
    rw [eg]
    refine ⟨la, lc, by rw [List.getElem?_append_right (by omega), hl, Nat.sub_self]; rfl, ?_⟩
    obtain ⟨ea, c, e1, _, hrec, hpos⟩ := hrow.open
    rw [hlv] at e1
    cases e1
    by_cases h0 : l = []
    · exact ⟨Or.inl h0, Or.inl h0⟩
    · obtain ⟨g, rfl, hBg, hgw⟩ := hpos (List.length_pos_iff.2 h0)
      have hne : v.ownBlock ≠ some g := rows_apart hrow hv (by decide) g (by rw [hlv]; rfl)
      exact ⟨recs_same hrec (old g hgw hne).1, Or.inr ⟨g, rfl, by omega, by have := hg.size; omega, (old g hgw hne).2⟩⟩
theorem TksRO.tks {B : Nat} {w : World} {v : Value} {ls : List (List (List Int))} (h : TksRO B w v ls) : ∃ ta tc, v = .slice ta ls.length tc ∧ ls.length ≤ tc ∧ TksN w ta ls ∧ (ta = none → tc = 0) ∧ Frsh B ta := by
  obtain ⟨vs, hl, hr, hi⟩ := h
  have hr' := hr
  rcases hr.2 with ⟨rfl, h0⟩ | ⟨g, cap, cur, rfl, hb, hg, hn, hm, hs, ht⟩
  · refine ⟨none, 0, by rw [← hl, h0], by omega, Or.inl (List.eq_nil_of_length_eq_zero (by omega)), fun _ => rfl, fun b o e => by cases e⟩
  · refine ⟨some ⟨g, 0, none⟩, cap, by rw [hl], by omega, Or.inr ⟨g, 0, rfl, fun i hil => ?_⟩, (fun e => by cases e), fun b o e => by cases e; exact hb⟩
    obtain ⟨la, lc, h1, h2, _⟩ := hi i hil
    refine ⟨la, lc, ?_, h2⟩
    rw [Nat.zero_add, World.ownsRow.cellAt hr' _ (by omega)]
    exact h1
def TicksPO (k : Nat) (p : Nat) (r : Rd) (w : World) (e : Ending) (w' : World) : Prop := ∃ v, e = .returned v ∧ TksRO w.heap.size w' v (Rd.tape k r).1 ∧ RdAt p (Rd.tape k r).2 w' ∧ Keep w (some p) w'
set_option maxRecDepth 100000 in
set_option maxHeartbeats 8000000 in
theorem readTicksO_calls (p : Nat) (r : Rd) (w : World) (h : RdAt p r w) :
    Calls Tryz.prog 90 #[.pointer (some ⟨p, 0, none⟩), .func (.func 91) #[] #[]] w (TicksPO 6 p r w) := by
  have eg : ∀ args w, (callFunc 91 args).run Tryz.prog w = .ok (.enter 91 args) w := enters_of Tryz.func91 (by kernel_rfl) rfl
  have hp := h.lt
  have HC := hid (count_calls p r 60 w h)
  clear h
  go_enter Tryz.func90, Tryz.ntmps90
  go_wp2_with fail
  refine HC.out.mono ?_
  rintro e w1 ⟨rfl, h1, k1⟩
  obtain ⟨N, hN⟩ : ∃ N : Nat, (r.upTo 60).1 = (N : Int) := ⟨(r.upTo 60).1.toNat, by have := (upTo_le r (m := 60) (by decide)).1; omega⟩
  have hN60 : N ≤ 60 := by have := (upTo_le r (m := 60) (by decide)).2; omega
  obtain ⟨F, hF⟩ : ∃ F, (r.upTo 60).2 = F := ⟨_, rfl⟩
  have HTP : Hid (Rd.tape 6 r = Rd.ticks 6 F N) := by
    show _ = _
    unfold Rd.tape
    rw [hF, hN]
    rfl
  rw [hF] at h1
  rw [hN]
  have H1 := hid h1
  have HK1 := hid k1
  clear HC h1 k1 hN hF
  go_wp2
  go_loopw [5, 9] (fun s5 s9 wr => ∃ (k : Nat) (v : Value), k ≤ N ∧ s5 = v ∧ s9 = .int .i64 k ∧ Hid (TksRO w.heap.size wr v (Rd.ticks 6 F k).1 ∧ RdAt p (Rd.ticks 6 F k).2 wr ∧ Keep w (some p) wr)) (fun _ s9 _ => N - (intOf s9).toNat)
  case atStart => exact ⟨0, .slice none 0 0, Nat.zero_le _, rfl, rfl, ⟨[], rfl, World.ownsRow_nil _ _ _ _, fun i hi => absurd hi (Nat.not_lt_zero _)⟩, H1.out, HK1.out⟩
  case round =>
    clear H1 HK1
    obtain ⟨V, rfl⟩ : ∃ V, V = wr := ⟨_, rfl⟩
    obtain ⟨k, v, hk, hv5, rfl, HM⟩ := hrel
    subst hv5
    by_cases hlt : k < N
    · have hltz : (k : Int) < (N : Int) := by omega
      have HC := hid (count_calls p (Rd.ticks 6 F k).2 8 V HM.out.2.1)
      go_wp2_with fail
      refine HC.out.mono ?_
      rintro e w2 ⟨rfl, h2, k2⟩
      obtain ⟨R, hR⟩ : ∃ R, (Rd.ticks 6 F k).2 = R := ⟨_, rfl⟩
      rw [hR] at h2 ⊢
      obtain ⟨M, hM⟩ : ∃ M : Nat, (R.upTo 8).1 = (M : Int) := ⟨(R.upTo 8).1.toNat, by have := (upTo_le R (m := 8) (by decide)).1; omega⟩
      have hM8 : M ≤ 8 := by have := (upTo_le R (m := 8) (by decide)).2; omega
      obtain ⟨G, hG⟩ : ∃ G, (R.upTo 8).2 = G := ⟨_, rfl⟩
      have HTK : Hid (Rd.tick 6 R = Rd.recs 6 G M) := by
        show _ = _
        unfold Rd.tick
        rw [hG, hM]
        rfl
      have HNX : Hid (Rd.ticks 6 F (k + 1) = ((Rd.ticks 6 F k).1 ++ [(Rd.recs 6 G M).1], (Rd.recs 6 G M).2)) := by
        show _ = _
        rw [ticks_succ, hR, HTK.out]
      rw [hG] at h2
      rw [hM]
      have hpr : p < V.heap.size := by have := HM.out.2.2.1.size; omega
      have hs2 : V.heap.size ≤ w2.heap.size := k2.1.size
      have H2 := hid h2
      have HK2 := hid k2
      clear HC h2 k2 hR hM hG HTK
      go_wp2
      go_loopw [6, 13] (fun s6 s13 wx => ∃ (j : Nat) (lv : Value), j ≤ M ∧ s6 = lv ∧ s13 = .int .i64 j ∧ Hid (RowO V.heap.size wx lv (Rd.recs 6 G j).1 ∧ RdAt p (Rd.recs 6 G j).2 wx ∧ Keep V (some p) wx)) (fun _ s13 _ => M - (intOf s13).toNat)
      case atStart => exact ⟨0, .slice none 0 0, Nat.zero_le _, rfl, rfl, World.ownsRow_nil _ _ _ _, H2.out, HK2.out⟩
      case round =>
        clear H2 HK2
        obtain ⟨j, lv, hj, hl6, rfl, HI⟩ := hrel
        subst hl6
        have HLEN : Hid ((Rd.recs 6 G j).1.length = j) := recs_length 6 G j
        by_cases hjl : j < M
        · have hjz : (j : Int) < (M : Int) := by omega
          have HCC := hid (readOrder_calls p (Rd.recs 6 G j).2 wr HI.out.2.1)
          go_wp2_with fail
          refine HCC.out.mono ?_
          rintro e w3 ⟨rfl, h3, k3⟩
          obtain ⟨Z, hZ⟩ : ∃ Z, ((Rd.recs 6 G j).2).many 6 = Z := ⟨_, rfl⟩
          rw [hZ] at h3 ⊢
          have HNX1 : Hid (Rd.recs 6 G (j + 1) = ((Rd.recs 6 G j).1 ++ [Z.1], Z.2)) := by
            show _ = _
            rw [recs_succ, hZ]
          have HO3 : Hid (RowO V.heap.size w3 _ (Rd.recs 6 G j).1) := row_keepP HI.out.1 k3 hpr
          have HK3 : Hid (Keep V (some p) w3) := keep_trans HI.out.2.2 k3
          have H3 := hid h3
          have hs3 : V.heap.size ≤ w3.heap.size := HK3.out.1.size
          clear HCC h3 k3 HI hZ
          go_wp2_with (at_builtin; refine wp_rowsO _ rfl _ _ rfl V.heap.size _ _ rfl (World.ownsRow.alloc HO3.out _) (some ⟨w3.heap.size, 0, none⟩) 1 [Z.1] rfl (recs_oneO w3 Z.1 _) (by simp) (by rw [HLEN.out]; show j + 1 ≤ 100000; omega) (by simp [go_sem]; omega) ?_
                       intro v9 w9 hr9 hg9 hl9
                       have HK9 : Hid (Keep V (some p) w9) := keep_grown (HK3.out.below ((Below.refl _ _).alloc (Nat.le_refl _) _)) hg9 (fun q hq => (World.ownsRow.lt HO3.out q hq).1)
                       have HR9 : Hid (RdAt p Z.2 w9) := rd_grown (H3.out.below ((Below.refl _ _).alloc (Nat.le_refl _) _)) hg9 (fun e => by have := (World.ownsRow.lt HO3.out p e).1; omega)
                       have HO9 := hid hr9
                       clear hr9 hg9 hl9)
          go_roundw
          case rel => exact ⟨j + 1, _, by omega, rfl, by go_num, by rw [HNX1.out]; exact HO9.out, by rw [HNX1.out]; exact HR9.out, HK9.out⟩
          case measure => simp [intOf]; omega
        · have hjz : ¬ (j : Int) < (M : Int) := by omega
          have hje : j = M := by omega
          subst hje
          obtain ⟨la, lc, hlv, _, _, _⟩ := HI.out.1.open
          have HKx := hid HI.out.2.2
          have HRx := hid HI.out.2.1
          have HOx := hid HI.out.1
          have HTx : Hid (TksRO w.heap.size wr _ (Rd.ticks 6 F k).1) := HM.out.1.same HKx.out.1.size (fun q hB hq => HKx.out.2 q hq (fun e => by cases e; omega))
          obtain ⟨vs, hvl, hvr, hvi⟩ := HTx.out
          have HLT : Hid (vs.length = k) := by show _ = _; rw [hvl, ticks_length]
          have HKw : Hid (Keep w (some p) wr) := keep_trans HM.out.2.2 HKx.out
          have hsx : V.heap.size ≤ wr.heap.size := HKx.out.1.size
          have hsw : w.heap.size ≤ V.heap.size := HM.out.2.2.1.size
          have HSN := hid (fun w1 w' v' hb1 hR hg ho => @TksRO.snoc w.heap.size V.heap.size wr w1 w' _ v' _ (Rd.ticks 6 F k).1 (Rd.recs 6 G j).1 la lc vs hvl hvi hvr hlv HOx.out hsw hb1 hR hg ho)
          have HVR := hid hvr
          subst hlv
          clear HM HI hvl hvi hvr HTx HOx
          go_wp2_with (at_builtin; refine wp_rowsTO _ rfl _ _ rfl w.heap.size _ vs rfl (World.ownsRow.alloc HVR.out _) ⟨wr.heap.size, 0, none⟩ la (Rd.recs 6 G j).1.length lc rfl (by rw [add_off]; exact World.cell?_alloc_at _ _ _ _ rfl) (by rw [HLT.out]; omega) (by simp [go_sem]; omega) ?_
                       intro v9 w9 hr9 hg9 hl9
                       have HS9 := hid (HSN.out _ w9 v9 ((Below.refl _ _).alloc (Nat.le_refl _) _) hr9 hg9 hl9)
                       have HK9 : Hid (Keep w (some p) w9) := keep_grown (HKw.out.below ((Below.refl _ _).alloc (Nat.le_refl _) _)) hg9 (fun q hq => (World.ownsRow.lt HVR.out q hq).1)
                       have HR9 : Hid (RdAt p (Rd.recs 6 G j).2 w9) := rd_grown (HRx.out.below ((Below.refl _ _).alloc (Nat.le_refl _) _)) hg9 (fun e => by have := (World.ownsRow.lt HVR.out p e).1; omega)
                       clear hr9 hg9 hl9)
          go_roundw
          case rel => exact ⟨k + 1, _, by omega, rfl, by go_num, by rw [HNX.out]; exact HS9.out, by rw [HNX.out]; exact HR9.out, HK9.out⟩
          case measure => simp [intOf]; omega
    · have hltz : ¬ (k : Int) < (N : Int) := by omega
      have hke : k = N := by omega
      subst hke
      go_wp2
      go_ret
      exact ⟨_, rfl, by rw [HTP.out]; exact HM.out.1, by rw [HTP.out]; exact HM.out.2.1, HM.out.2.2⟩
theorem nums_sixO (w : World) (s : List Int) (t : TypeId) : Nums (w.alloc (.cells (ordC s) t)) (some ⟨w.heap.size, 0, none⟩) (normK 6 s) := by
  refine Or.inr ⟨w.heap.size, 0, rfl, fun i hi => ?_⟩
  have hh := heap_alloc_new w (.cells (ordC s) t)
  rw [cell_of_row _ _ (0 + i) _ _ _ hh]
  have hi' : i < 6 := by simpa [normK] using hi
  match i, hi' with
  | 0, _ | 1, _ | 2, _ | 3, _ | 4, _ | 5, _ => rfl
def TksBO (B : Nat) (w : World) (ta : Option Addr) (ls : List (List (List Int))) : Prop :=
  ls = [] ∨ ∃ c o, ta = some ⟨c, o, none⟩ ∧ ∀ i, i < ls.length → ∃ la lc, ∀ w', Below B w w' → w'.cell? ⟨c, o + i, none⟩ = some (.slice la (ls.getD i []).length lc) ∧ Recs w' la 6 (ls.getD i [])
theorem TksN.stay {w : World} {ta : Option Addr} {ls : List (List (List Int))} (h : TksN w ta ls) : TksBO w.heap.size w ta ls := by
  rcases h with h | ⟨c, o, e, hc⟩
  · exact Or.inl h
  · refine Or.inr ⟨c, o, e, fun i hi => ?_⟩
    obtain ⟨la, lc, h1, h2⟩ := hc i hi
    exact ⟨la, lc, fun w' hb => ⟨(hb.cell (World.block_lt_of_cell? w _ h1)).trans h1, h2.below hb⟩⟩
theorem TksBO.at {B : Nat} {w : World} {ta : Option Addr} {ls : List (List (List Int))} (h : TksBO B w ta ls) {i : Nat} (hi : i < ls.length) : ∃ c o la lc, ta = some ⟨c, o, none⟩ ∧ ∀ w', Below B w w' → w'.cell? ⟨c, o + i, none⟩ = some (.slice la (ls.getD i []).length lc) ∧ Recs w' la 6 (ls.getD i []) := by
  rcases h with rfl | ⟨c, o, e, hc⟩
  · simp at hi
  · obtain ⟨la, lc, h1⟩ := hc i hi
    exact ⟨c, o, la, lc, e, h1⟩
set_option maxRecDepth 100000 in
set_option maxHeartbeats 2000000 in
theorem ordNumbersX_calls (u : List Int) (w : World) : Calls Tryz.prog 49 #[ordV u] w fun e w' => e = .returned (.slice (some ⟨w.heap.size + 1, 0, none⟩) 6 6) ∧ w' = (w.alloc (.cells (ordC u) 102)).alloc (.cells (ordC u) 3) := by
  go_enter Tryz.func49, Tryz.ntmps49
  go_wp2
  go_ret
  exact ⟨rfl, rfl⟩
set_option maxHeartbeats 4000000 in
set_option maxRecDepth 100000 in
theorem writeTicksO_calls (B b : Nat) (l : List UInt8) (ls : List (List (List Int))) (ta : Option Addr) (tc : Nat) (w : World) (h : IsW B b l w) (ht : TksBO B w ta ls) (hm : ∀ x ∈ ls, ∀ u ∈ x, ∀ j, j < 6 → Sml (fld u j)) (h60 : ls.length ≤ 60) (h8 : ∀ x ∈ ls, x.length ≤ 8) (hl : l.length ≤ 200000) (hB : B ≤ w.heap.size) :
    Calls Tryz.prog 85 #[.pointer (some ⟨b, 0, none⟩), .slice ta ls.length tc, .func (.func 49) #[] #[]] w fun e w' => e = .returned (.tuple #[]) ∧ IsW B b (l ++ numsL (ticksN 6 ls)) w' ∧ Below B w w' ∧ KeptW b w w' := by
  have eg : ∀ args w, (callFunc 49 args).run Tryz.prog w = .ok (.enter 49 args) w := enters_of Tryz.func49 (by kernel_rfl) rfl
  have HP := hid (put_fresh B b l _ [(ls.length : Int)] w h (nums_one w _ 3) (by intro z hz; rw [List.mem_singleton.1 hz]; exact ⟨by omega, by omega⟩) (by simp; omega) hB)
  have HT := hid ht
  have HS := hid hm
  have H8 := hid h8
  have hbB := h.lt
  clear h ht hm h8
  go_enter Tryz.func85, Tryz.ntmps85
  go_wp2_with fail
  refine HP.out.mono ?_
  rintro e w1 ⟨rfl, hw1, hb1, hk1⟩
  obtain ⟨l1, hl1⟩ : ∃ l1, l ++ numsL [(ls.length : Int)] = l1 := ⟨_, rfl⟩
  have hll1 : l1.length ≤ 200009 := by
    have := numsL_length [(ls.length : Int)]
    simp at this
    rw [← hl1, List.length_append]
    omega
  rw [hl1] at hw1
  have HL1 := hid hl1
  have H1 : Hid (IsW B b l1 w1 ∧ Below B w w1 ∧ KeptW b w w1) := ⟨hw1, hb1, hk1⟩
  clear HP hw1 hb1 hk1 hl1
  go_wp2
  go_loopw [17] (fun i wr => ∃ k : Nat, k ≤ ls.length ∧ i = .int .i64 k ∧ Hid (IsW B b (l1 ++ numsL ((ls.take k).flatMap (recsN 6))) wr ∧ Below B w wr ∧ KeptW b w wr)) (fun i _ => ls.length - (intOf i).toNat)
  case atStart => exact ⟨0, Nat.zero_le _, rfl, by rw [List.take_zero]; show IsW B b (l1 ++ []) w1; rw [List.append_nil]; exact H1.out.1, H1.out.2⟩
  case round =>
    clear H1
    obtain ⟨k, hk, rfl, HR⟩ := hrel
    by_cases hlt : k < ls.length
    · have hltz : (k : Int) < (ls.length : Int) := by omega
      obtain ⟨c, o, la, lc, rfl, hst⟩ := HT.out.at hlt
      have hc := (hst wr HR.out.2.1).1
      have HST := hid (fun w' hb => (hst w' hb).2)
      have hx8 := H8.out _ (getD_mem hlt [])
      have HXS := hid (HS.out _ (getD_mem hlt []))
      have HNX : Hid (numsL ((ls.take (k + 1)).flatMap (recsN 6)) = numsL ((ls.take k).flatMap (recsN 6)) ++ numsL (recsN 6 (ls.getD k []))) := by show _ = _; rw [ticks_take hlt, numsL_append]
      have hlk : (l1 ++ numsL ((ls.take k).flatMap (recsN 6))).length ≤ 240000 := by
        have e1 := numsL_length ((ls.take k).flatMap (recsN 6))
        have e2 := ticks_len (k := 6) (ls.take k) (fun x hx => H8.out x (List.mem_of_mem_take hx))
        rw [List.length_take] at e2
        rw [List.length_append]
        omega
      generalize ls.getD k [] = x at hc HST hx8 HXS HNX
      obtain ⟨l2, hl2⟩ : ∃ l2, l1 ++ numsL ((ls.take k).flatMap (recsN 6)) = l2 := ⟨_, rfl⟩
      rw [hl2] at HR hlk
      have HL2 := hid hl2
      have hsr : B ≤ wr.heap.size := by have := HR.out.2.1.size; omega
      have HPX := hid (put_fresh B b l2 _ [(x.length : Int)] wr HR.out.1 (nums_one wr _ 3) (by intro z hz; rw [List.mem_singleton.1 hz]; exact ⟨by omega, by omega⟩) (by simp; omega) hsr)
      have HBr := hid HR.out.2.1
      have HKr := hid HR.out.2.2
      clear hst hl2 HR
      go_wp2_with fail
      refine HPX.out.mono ?_
      rintro e w2 ⟨rfl, hw2, hb2, hk2⟩
      obtain ⟨l3, hl3⟩ : ∃ l3, l2 ++ numsL [(x.length : Int)] = l3 := ⟨_, rfl⟩
      rw [hl3] at hw2
      have hll3 : l3.length ≤ 240009 := by
        have := numsL_length [(x.length : Int)]
        simp at this
        rw [← hl3, List.length_append]
        omega
      have HL3 := hid hl3
      have H2 : Hid (IsW B b l3 w2 ∧ Below B w w2 ∧ KeptW b w w2) := ⟨hw2, HBr.out.trans hb2, HKr.out.trans hk2⟩
      clear HPX hw2 hb2 hk2 hl3 hc HBr HKr
      go_wp2
      go_loopw [28] (fun i wr => ∃ n : Nat, n ≤ x.length ∧ i = .int .i64 n ∧ Hid (IsW B b (l3 ++ numsL ((x.take n).flatMap (normK 6))) wr ∧ Below B w wr ∧ KeptW b w wr)) (fun i _ => x.length - (intOf i).toNat)
      case atStart => exact ⟨0, Nat.zero_le _, rfl, by rw [List.take_zero]; show IsW B b (l3 ++ []) w2; rw [List.append_nil]; exact H2.out.1, H2.out.2⟩
      case round =>
        clear H2
        obtain ⟨n, hn, rfl, HR⟩ := hrel
        by_cases hnx : n < x.length
        · have hnz : (n : Int) < (x.length : Int) := by omega
          obtain ⟨q, qo, rfl, hcs⟩ := (HST.out wr HR.out.2.1).at hnx
          have q0 : wr.cell? ⟨q, qo + n * 6, none⟩ = some (.int .i64 (fld (rec x n) 0)) := hcs 0 (by omega)
          have q1 := hcs 1 (by omega)
          have q2 := hcs 2 (by omega)
          have q3 := hcs 3 (by omega)
          have q4 := hcs 4 (by omega)
          have q5 := hcs 5 (by omega)
          have HN : Hid (numsL ((x.take (n + 1)).flatMap (normK 6)) = numsL ((x.take n).flatMap (normK 6)) ++ numsL (normK 6 (rec x n))) := by show _ = _; rw [recs_take hnx, numsL_append]
          have hu : ∀ z ∈ normK 6 (rec x n), Sml z := fun z hz => by
            unfold normK at hz
            obtain ⟨j, hj, rfl⟩ := List.mem_map.1 hz
            exact HXS.out _ (rec_mem hnx) j (List.mem_range.1 hj)
          have hlen : (l3 ++ numsL ((x.take n).flatMap (normK 6))).length ≤ 250000 := by
            have h1 := numsL_length ((x.take n).flatMap (normK 6))
            rw [flat_norm_length, List.length_take] at h1
            rw [List.length_append]
            omega
          generalize rec x n = u at q0 q1 q2 q3 q4 q5 HN hu
          obtain ⟨X, hX⟩ : ∃ X, wr.alloc (.cells (ordC u) 102) = X := ⟨_, rfl⟩
          have hbX : Below wr.heap.size wr X := by rw [← hX]; exact (Below.refl _ _).alloc (Nat.le_refl _) _
          obtain ⟨Y, hY⟩ : ∃ Y, X.alloc (.cells (ordC u) 102) = Y := ⟨_, rfl⟩
          have hbY : Below X.heap.size X Y := by rw [← hY]; exact (Below.refl _ _).alloc (Nat.le_refl _) _
          have hsY : Y.heap.size = X.heap.size + 1 := by rw [← hY]; simp [go_sem]
          have hrY : Below wr.heap.size wr Y := hbX.trans (hbY.mono hbX.size)
          have hBY : Below B w Y := HR.out.2.1.trans (hrY.mono (by have := HR.out.2.1.size; omega))
          have HPX := hid (put_fresh B b _ _ (normK 6 u) Y (HR.out.1.below hrY) (nums_sixO Y u 3) hu (by rw [normK_length]; omega) (by have := hBY.size; omega))
          have HCN := hid (ordNumbersX_calls u X)
          rw [normK_length, hsY] at HPX
          rw [hY] at HCN
          have HBY := hid hBY
          have HKY : Hid (KeptW b w Y) := kept_below HR.out.2.2 hrY
          have HXE := hid hX
          clear hbX hbY hrY hBY hu hlen HR hcs hX hY
          go_wp2_with fail
          rw [HXE.out]
          refine HCN.out.mono ?_
          rintro e w4 ⟨rfl, rfl⟩
          clear HCN
          go_wp2_with fail
          refine HPX.out.mono ?_
          rintro e w6 ⟨rfl, hw6, hb6, hk6⟩
          have HR6 : Hid (IsW B b (l3 ++ numsL ((x.take (n + 1)).flatMap (normK 6))) w6 ∧ Below B w w6 ∧ KeptW b w w6) := ⟨by rw [HN.out, ← List.append_assoc]; exact hw6, HBY.out.trans hb6, HKY.out.trans hk6⟩
          clear hw6 hb6 hk6 HPX q0 q1 q2 q3 q4 q5
          go_wp2
          go_roundw
          case rel => exact ⟨n + 1, by omega, by go_num, HR6.out⟩
          case measure => simp [intOf]; omega
        · have hnz : ¬ (n : Int) < (x.length : Int) := by omega
          have e : x.take n = x := List.take_of_length_le (by omega)
          rw [e] at HR
          have HR7 : Hid (IsW B b (l1 ++ numsL ((ls.take (k + 1)).flatMap (recsN 6))) wr ∧ Below B w wr ∧ KeptW b w wr) := by
            refine ⟨?_, HR.out.2⟩
            have e2 : l1 ++ numsL ((ls.take (k + 1)).flatMap (recsN 6)) = l3 ++ numsL (x.flatMap (normK 6)) := by
              rw [HNX.out, ← HL3.out, ← HL2.out]
              unfold recsN
              simp only [numsL_cons, numsL_nil, List.append_assoc, List.append_nil]
            rw [e2]
            exact HR.out.1
          clear HR e
          go_wp2
          go_roundw
          case rel => exact ⟨k + 1, by omega, by go_num, HR7.out⟩
          case measure => simp [intOf]; omega
    · have hltz : ¬ (k : Int) < (ls.length : Int) := by omega
      have e : ls.take k = ls := List.take_of_length_le (by omega)
      rw [e] at HR
      have e2 : l1 ++ numsL (ls.flatMap (recsN 6)) = l ++ numsL (ticksN 6 ls) := by
        rw [← HL1.out]
        unfold ticksN
        simp only [numsL_cons, numsL_nil, List.append_assoc, List.append_nil]
      have HE2 := hid e2
      clear e e2
      go_wp2
      go_end0
      exact ⟨rfl, by rw [← HE2.out]; exact HR.out.1, HR.out.2⟩
end Go.Proofs.YtcbalhicaipmlaaGreat
