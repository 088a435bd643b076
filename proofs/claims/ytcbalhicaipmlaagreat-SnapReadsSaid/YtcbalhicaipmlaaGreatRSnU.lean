/- Package snap: ticks of commands are read. -/
import Derived.Test.YtcbalhicaipmlaaGreatRRefQ
import Derived.Test.YtcbalhicaipmlaaGreatRSnL
import Derived.Test.YtcbalhicaipmlaaGreatREsRA
import Derived.Test.YtcbalhicaipmlaaGreatRSmN
namespace Go.Proofs.YtcbalhicaipmlaaGreat
open Go.RowKit
def RowT (base : Nat) (w : World) (v : Value) (vs : List Value) : Prop := w.ownsRow base 76 1 v vs.length vs
theorem info_cmds : (Tryz.prog.info? 76).map (fun i => (i.zero, i.size, i.bytes)) = some (some (.slice none 0 0), 1, 24) := by kernel_rfl
theorem wp_rowsT {ops : Array Oper} {rest : List Oper} {o : Oper} {a : Act} {Q : Exit → Act → World → Prop} (w : World) (hgd : o.guard = none) (s x : Operand)
    (ho : o.op = .call { callee := .builtin .append, args := #[s, x], argTypes := #[27, 27] }) (base : Nat) (v : Value) (vs : List Value) (hs : a.eval s = v) (hown : RowT base w v vs)
    (ad : Addr) (xa : Option Addr) (n c : Nat) (hxe : a.eval x = .slice (some ad) 1 1) (hx : w.cell? (ad.add 0) = some (.slice xa n c)) (hlen : vs.length + 1 ≤ 100000) (hbase : base ≤ w.heap.size)
    (h : ∀ v' w', RowT base w' v' (vs ++ [.slice xa n c]) → w.grownBy w' v.ownBlock → (v'.ownBlock = v.ownBlock ∨ v'.ownBlock = some w.heap.size) → wpList Tryz.prog ops Q rest (a.put o.dst v') w') : wpList Tryz.prog ops Q (o :: rest) a w := by
  refine wpList_plain hgd fun K hK => ?_
  obtain ⟨i0, hi, hz0, hz1, hz2⟩ := info_parts info_cmds
  have hsrc : ∀ j u, [Value.slice xa n c][j]? = some u → w.cell? (ad.add j) = some u := by
    intro j u hj
    cases j with
    | zero => simp at hj; rw [← hj]; exact hx
    | succ j => simp at hj
  obtain ⟨v', w', hr, h2, h3, h4, h5⟩ := run_append_own_at (P := Tryz.prog) w base 27 o.type 76 i0 (.slice none 0 0) 1 24 Tryz.underlying27 hi hz0 hz1 hz2 rfl (by decide) v _ _ hown ad 1 1 [.slice xa n c] rfl hsrc (fun v hv => by rw [List.mem_singleton.1 hv]; rfl) (by unfold maxLen; omega) (by omega) hbase
  unfold Oper.wp execOp
  simp only [ho, resolve, invoke, builtin, Sem.run_bind, Sem.run_pure, Result.andThen_ok, List.map_toArray, List.map_cons, List.map_nil, hs, hxe, hr]
  refine hK _ _ (h v' w' ?_ h3 h5)
  unfold RowT
  rw [List.length_append]
  exact h2
def TksR (B : Nat) (w : World) (v : Value) (ls : List (List (List Int))) : Prop :=
  ∃ vs : List Value, vs.length = ls.length ∧ RowT B w v vs ∧ ∀ i, i < ls.length → ∃ la lc, vs[i]? = some (.slice la (ls.getD i []).length lc) ∧ Recs w la 7 (ls.getD i []) ∧ (ls.getD i [] = [] ∨ ∃ b, la = some ⟨b, 0, none⟩ ∧ B ≤ b ∧ b < w.heap.size ∧ v.ownBlock ≠ some b)
theorem recs_same {w w' : World} {b k : Nat} {l : List (List Int)} (h : Recs w (some ⟨b, 0, none⟩) k l) (hb : w'.heap[b]? = w.heap[b]?) : Recs w' (some ⟨b, 0, none⟩) k l := by
  rcases h with h | ⟨b', o', e, hc⟩
  · exact Or.inl h
  · cases e
    exact Or.inr ⟨b, 0, rfl, fun i hi j hj => (World.cell?_of_block (w := w) (a := ⟨b, 0 + i * k + j, none⟩) hb).trans (hc i hi j hj)⟩
theorem TksR.same {B : Nat} {w w' : World} {v : Value} {ls : List (List (List Int))} (h : TksR B w v ls) (hs : w.heap.size ≤ w'.heap.size) (hk : ∀ k, B ≤ k → k < w.heap.size → w'.heap[k]? = w.heap[k]?) : TksR B w' v ls := by
  obtain ⟨vs, hl, hr, hi⟩ := h
  refine ⟨vs, hl, row_other hr (fun g hg => hk g (World.ownsRow.lt hr g hg).1 (World.ownsRow.lt hr g hg).2), fun i hil => ?_⟩
  obtain ⟨la, lc, h1, h2, h3⟩ := hi i hil
  refine ⟨la, lc, h1, ?_, ?_⟩
  · rcases h3 with h3 | ⟨b, rfl, hB, hb, _⟩
    · exact Or.inl h3
    · exact recs_same h2 (hk b hB hb)
  · rcases h3 with h3 | ⟨b, hla, hB, hb, hv⟩
    · exact Or.inl h3
    · exact Or.inr ⟨b, hla, hB, Nat.lt_of_lt_of_le hb hs, hv⟩
theorem TksR.snoc {B B' : Nat} {w w1 w' : World} {v v' lv : Value} {ls : List (List (List Int))} {l : List (List Int)} {la : Option Addr} {lc : Nat} {vs : List Value} (hl : vs.length = ls.length)
    (hi : ∀ i, i < ls.length → ∃ la lc, vs[i]? = some (.slice la (ls.getD i []).length lc) ∧ Recs w la 7 (ls.getD i []) ∧ (ls.getD i [] = [] ∨ ∃ b, la = some ⟨b, 0, none⟩ ∧ B ≤ b ∧ b < w.heap.size ∧ v.ownBlock ≠ some b))
    (hv : RowT B w v vs) (hlv : lv = .slice la l.length lc) (hrow : RowC B' w lv l) (hB : B ≤ B') (hb1 : Below w.heap.size w w1) (hR : RowT B w' v' (vs ++ [.slice la l.length lc])) (hg : w1.grownBy w' v.ownBlock) (ho : v'.ownBlock = v.ownBlock ∨ v'.ownBlock = some w1.heap.size) : TksR B w' v' (ls ++ [l]) := by
  have hs1 := hb1.size
  have old : ∀ b, b < w.heap.size → v.ownBlock ≠ some b → w'.heap[b]? = w.heap[b]? ∧ v'.ownBlock ≠ some b := fun b hb hne => by
    refine ⟨(hg.block b (by omega) (Ne.symm hne)).trans (hb1.block b hb), ?_⟩
    rcases ho with e | e
    · rw [e]; exact hne
    · rw [e]; intro h; cases h; omega
  refine ⟨vs ++ [.slice la l.length lc], by simp [hl], hR, fun i hil => ?_⟩
  rw [List.length_append, List.length_singleton] at hil
  by_cases h : i < ls.length
  · obtain ⟨ma, mc, h1, h2, h3⟩ := hi i h
    have eg : (ls ++ [l]).getD i [] = ls.getD i [] := by rw [List.getD_eq_getElem?_getD, List.getD_eq_getElem?_getD, List.getElem?_append_left h]
    rw [eg]
    refine ⟨ma, mc, by rw [List.getElem?_append_left (by omega)]; exact h1, ?_, ?_⟩
    · rcases h3 with h3 | ⟨b, rfl, _, hb, hne⟩
      · exact Or.inl h3
      · exact recs_same h2 (old b hb hne).1
    · rcases h3 with h3 | ⟨b, hla, hBb, hb, hne⟩
      · exact Or.inl h3
      · exact Or.inr ⟨b, hla, hBb, by have := hg.size; omega, (old b hb hne).2⟩
  · have he : i = ls.length := by omega
    subst he
    have eg : (ls ++ [l]).getD ls.length [] = l := by rw [List.getD_eq_getElem?_getD, List.getElem?_append_right (Nat.le_refl _), Nat.sub_self]; rfl
    rw [eg]
    refine ⟨la, lc, by rw [List.getElem?_append_right (by omega), hl, Nat.sub_self]; rfl, ?_⟩
    obtain ⟨ea, c, e1, _, hrec, hpos⟩ := hrow.open
    rw [hlv] at e1
    cases e1
    by_cases h0 : l = []
    · exact ⟨Or.inl h0, Or.inl h0⟩
    · obtain ⟨g, rfl, hBg, hgw⟩ := hpos (List.length_pos_iff.2 h0)
      have hne : v.ownBlock ≠ some g := rows_apart hrow hv (by decide) g (by rw [hlv]; rfl)
      exact ⟨recs_same hrec (old g hgw hne).1, Or.inr ⟨g, rfl, by omega, by have := hg.size; omega, (old g hgw hne).2⟩⟩
theorem TksR.tks {B : Nat} {w : World} {v : Value} {ls : List (List (List Int))} (h : TksR B w v ls) : ∃ ta tc, v = .slice ta ls.length tc ∧ ls.length ≤ tc ∧ Tks w ta ls ∧ (ta = none → tc = 0) ∧ Frsh B ta := by
  obtain ⟨vs, hl, hr, hi⟩ := h
  have hr' := hr
  rcases hr.2 with ⟨rfl, h0⟩ | ⟨g, cap, cur, rfl, hb, hg, hn, hm, hs, ht⟩
  · refine ⟨none, 0, by rw [← hl, h0], by omega, Or.inl (List.eq_nil_of_length_eq_zero (by omega)), fun _ => rfl, fun b o e => by cases e⟩
  · refine ⟨some ⟨g, 0, none⟩, cap, by rw [hl], by omega, Or.inr ⟨g, 0, rfl, fun i hil => ?_⟩, (fun e => by cases e), fun b o e => by cases e; exact hb⟩
    obtain ⟨la, lc, h1, h2, _⟩ := hi i hil
    refine ⟨la, lc, ?_, h2⟩
    rw [Nat.zero_add, World.ownsRow.cellAt hr' _ (by omega)]
    exact h1
theorem ticks_succ (k : Nat) (r : Rd) (n : Nat) : Rd.ticks k r (n + 1) = ((Rd.ticks k r n).1 ++ [(Rd.tick k (Rd.ticks k r n).2).1], (Rd.tick k (Rd.ticks k r n).2).2) := by rw [Rd.ticks]
def TicksP (k : Nat) (p : Nat) (r : Rd) (w : World) (e : Ending) (w' : World) : Prop := ∃ v, e = .returned v ∧ TksR w.heap.size w' v (Rd.tape k r).1 ∧ RdAt p (Rd.tape k r).2 w' ∧ Keep w (some p) w'
set_option maxRecDepth 100000 in
set_option maxHeartbeats 8000000 in
theorem readTicks_calls (p : Nat) (r : Rd) (w : World) (h : RdAt p r w) :
    Calls Tryz.prog 81 #[.pointer (some ⟨p, 0, none⟩), .func (.func 82) #[] #[]] w (TicksP 7 p r w) := by
  have eg : ∀ args w, (callFunc 82 args).run Tryz.prog w = .ok (.enter 82 args) w := enters_of Tryz.func82 (by kernel_rfl) rfl
  have hp := h.lt
  have HC := hid (count_calls p r 60 w h)
  clear h
  go_enter Tryz.func81, Tryz.ntmps81
  go_wp2_with fail
  refine HC.out.mono ?_
  rintro e w1 ⟨rfl, h1, k1⟩
  obtain ⟨N, hN⟩ : ∃ N : Nat, (r.upTo 60).1 = (N : Int) := ⟨(r.upTo 60).1.toNat, by have := (upTo_le r (m := 60) (by decide)).1; omega⟩
  have hN60 : N ≤ 60 := by have := (upTo_le r (m := 60) (by decide)).2; omega
  obtain ⟨F, hF⟩ : ∃ F, (r.upTo 60).2 = F := ⟨_, rfl⟩
  have HTP : Hid (Rd.tape 7 r = Rd.ticks 7 F N) := by
    show _ = _
    unfold Rd.tape
    rw [hF, hN]
    rfl
  rw [hF] at h1
  rw [hN]
  have H1 := hid h1
  have HK1 := hid k1
  clear HC h1 k1 hN hF
  go_wp2
  go_loopw [5, 9] (fun s5 s9 wr => ∃ (k : Nat) (v : Value), k ≤ N ∧ s5 = v ∧ s9 = .int .i64 k ∧ Hid (TksR w.heap.size wr v (Rd.ticks 7 F k).1 ∧ RdAt p (Rd.ticks 7 F k).2 wr ∧ Keep w (some p) wr)) (fun _ s9 _ => N - (intOf s9).toNat)
  case atStart => exact ⟨0, .slice none 0 0, Nat.zero_le _, rfl, rfl, ⟨[], rfl, World.ownsRow_nil _ _ _ _, fun i hi => absurd hi (Nat.not_lt_zero _)⟩, H1.out, HK1.out⟩
  case round =>
    clear H1 HK1
    obtain ⟨V, rfl⟩ : ∃ V, V = wr := ⟨_, rfl⟩
    obtain ⟨k, v, hk, hv5, rfl, HM⟩ := hrel
    subst hv5
    by_cases hlt : k < N
    · have hltz : (k : Int) < (N : Int) := by omega
      have HC := hid (count_calls p (Rd.ticks 7 F k).2 8 V HM.out.2.1)
      go_wp2_with fail
      refine HC.out.mono ?_
      rintro e w2 ⟨rfl, h2, k2⟩
      obtain ⟨R, hR⟩ : ∃ R, (Rd.ticks 7 F k).2 = R := ⟨_, rfl⟩
      rw [hR] at h2 ⊢
      obtain ⟨M, hM⟩ : ∃ M : Nat, (R.upTo 8).1 = (M : Int) := ⟨(R.upTo 8).1.toNat, by have := (upTo_le R (m := 8) (by decide)).1; omega⟩
      have hM8 : M ≤ 8 := by have := (upTo_le R (m := 8) (by decide)).2; omega
      obtain ⟨G, hG⟩ : ∃ G, (R.upTo 8).2 = G := ⟨_, rfl⟩
      have HTK : Hid (Rd.tick 7 R = Rd.recs 7 G M) := by
        show _ = _
        unfold Rd.tick
        rw [hG, hM]
        rfl
      have HNX : Hid (Rd.ticks 7 F (k + 1) = ((Rd.ticks 7 F k).1 ++ [(Rd.recs 7 G M).1], (Rd.recs 7 G M).2)) := by
        show _ = _
        rw [ticks_succ, hR, HTK.out]
      rw [hG] at h2
      rw [hM]
      have hpr : p < V.heap.size := by have := HM.out.2.2.1.size; omega
      have hs2 : V.heap.size ≤ w2.heap.size := k2.1.size
      have H2 := hid h2
      have HK2 := hid k2
      clear HC h2 k2 hR hM hG HTK
      go_wp2
      go_loopw [6, 13] (fun s6 s13 wx => ∃ (j : Nat) (lv : Value), j ≤ M ∧ s6 = lv ∧ s13 = .int .i64 j ∧ Hid (RowC V.heap.size wx lv (Rd.recs 7 G j).1 ∧ RdAt p (Rd.recs 7 G j).2 wx ∧ Keep V (some p) wx)) (fun _ s13 _ => M - (intOf s13).toNat)
      case atStart => exact ⟨0, .slice none 0 0, Nat.zero_le _, rfl, rfl, World.ownsRow_nil _ _ _ _, H2.out, HK2.out⟩
      case round =>
        clear H2 HK2
        obtain ⟨j, lv, hj, hl6, rfl, HI⟩ := hrel
        subst hl6
        have HLEN : Hid ((Rd.recs 7 G j).1.length = j) := recs_length 7 G j
        by_cases hjl : j < M
        · have hjz : (j : Int) < (M : Int) := by omega
          have HCC := hid (readCmd_calls p (Rd.recs 7 G j).2 wr HI.out.2.1)
          go_wp2_with fail
          refine HCC.out.mono ?_
          rintro e w3 ⟨rfl, h3, k3⟩
          obtain ⟨Z, hZ⟩ : ∃ Z, ((Rd.recs 7 G j).2).many 7 = Z := ⟨_, rfl⟩
          rw [hZ] at h3 ⊢
          have HNX1 : Hid (Rd.recs 7 G (j + 1) = ((Rd.recs 7 G j).1 ++ [Z.1], Z.2)) := by
            show _ = _
            rw [recs_succ, hZ]
          have HO3 : Hid (RowC V.heap.size w3 _ (Rd.recs 7 G j).1) := row_keepP HI.out.1 k3 hpr
          have HK3 : Hid (Keep V (some p) w3) := keep_trans HI.out.2.2 k3
          have H3 := hid h3
          have hs3 : V.heap.size ≤ w3.heap.size := HK3.out.1.size
          clear HCC h3 k3 HI hZ
          go_wp2_with (at_builtin; refine wp_rowsC _ rfl _ _ rfl V.heap.size _ _ rfl (World.ownsRow.alloc HO3.out _) (some ⟨w3.heap.size, 0, none⟩) 1 [Z.1] rfl (recs_oneC w3 Z.1 _) (by simp) (by rw [HLEN.out]; show j + 1 ≤ 100000; omega) (by simp [go_sem]; omega) ?_
                       intro v9 w9 hr9 hg9 hl9
                       have HK9 : Hid (Keep V (some p) w9) := keep_grown (HK3.out.below ((Below.refl _ _).alloc (Nat.le_refl _) _)) hg9 (fun q hq => (World.ownsRow.lt HO3.out q hq).1)
                       have HR9 : Hid (RdAt p Z.2 w9) := rd_grown (H3.out.below ((Below.refl _ _).alloc (Nat.le_refl _) _)) hg9 (fun e => by have := (World.ownsRow.lt HO3.out p e).1; omega)
                       have HO9 := hid hr9
                       clear hr9 hg9 hl9)
          go_roundw
          case rel => exact ⟨j + 1, _, by omega, rfl, by go_num, by rw [HNX1.out]; exact HO9.out, by rw [HNX1.out]; exact HR9.out, HK9.out⟩
          case measure => simp [intOf]; omega
        · have hjz : ¬ (j : Int) < (M : Int) := by omega
          have hje : j = M := by omega
          subst hje
          obtain ⟨la, lc, hlv, _, _, _⟩ := HI.out.1.open
          have HKx := hid HI.out.2.2
          have HRx := hid HI.out.2.1
          have HOx := hid HI.out.1
          have HTx : Hid (TksR w.heap.size wr _ (Rd.ticks 7 F k).1) := HM.out.1.same HKx.out.1.size (fun q hB hq => HKx.out.2 q hq (fun e => by cases e; omega))
          obtain ⟨vs, hvl, hvr, hvi⟩ := HTx.out
          have HLT : Hid (vs.length = k) := by show _ = _; rw [hvl, ticks_length]
          have HKw : Hid (Keep w (some p) wr) := keep_trans HM.out.2.2 HKx.out
          have hsx : V.heap.size ≤ wr.heap.size := HKx.out.1.size
          have hsw : w.heap.size ≤ V.heap.size := HM.out.2.2.1.size
          have HSN := hid (fun w1 w' v' hb1 hR hg ho => @TksR.snoc w.heap.size V.heap.size wr w1 w' _ v' _ (Rd.ticks 7 F k).1 (Rd.recs 7 G j).1 la lc vs hvl hvi hvr hlv HOx.out hsw hb1 hR hg ho)
          have HVR := hid hvr
          subst hlv
          clear HM HI hvl hvi hvr HTx HOx
          go_wp2_with (at_builtin; refine wp_rowsT _ rfl _ _ rfl w.heap.size _ vs rfl (World.ownsRow.alloc HVR.out _) ⟨wr.heap.size, 0, none⟩ la (Rd.recs 7 G j).1.length lc rfl (by rw [add_off]; exact World.cell?_alloc_at _ _ _ _ rfl) (by rw [HLT.out]; omega) (by simp [go_sem]; omega) ?_
                       intro v9 w9 hr9 hg9 hl9
                       have HS9 := hid (HSN.out _ w9 v9 ((Below.refl _ _).alloc (Nat.le_refl _) _) hr9 hg9 hl9)
                       have HK9 : Hid (Keep w (some p) w9) := keep_grown (HKw.out.below ((Below.refl _ _).alloc (Nat.le_refl _) _)) hg9 (fun q hq => (World.ownsRow.lt HVR.out q hq).1)
                       have HR9 : Hid (RdAt p (Rd.recs 7 G j).2 w9) := rd_grown (HRx.out.below ((Below.refl _ _).alloc (Nat.le_refl _) _)) hg9 (fun e => by have := (World.ownsRow.lt HVR.out p e).1; omega)
                       clear hr9 hg9 hl9)
          go_roundw
          case rel => exact ⟨k + 1, _, by omega, rfl, by go_num, by rw [HNX.out]; exact HS9.out, by rw [HNX.out]; exact HR9.out, HK9.out⟩
          case measure => simp [intOf]; omega
    · have hltz : ¬ (k : Int) < (N : Int) := by omega
      have hke : k = N := by omega
      subst hke
      go_wp2
      go_ret
      exact ⟨_, rfl, by rw [HTP.out]; exact HM.out.1, by rw [HTP.out]; exact HM.out.2.1, HM.out.2.2⟩
end Go.Proofs.YtcbalhicaipmlaaGreat
