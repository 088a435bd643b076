/- The reference: an elder state is read. -/
import Derived.Test.YtcbalhicaipmlaaGreatRSnJ
import Derived.Test.YtcbalhicaipmlaaGreatRStA
namespace Go.Proofs.YtcbalhicaipmlaaGreat
open Go.RowKit
theorem six_set0 {w : World} {b : Nat} {a0 a1 a2 a3 a4 a5 v : Value} {t : TypeId} (h : w.heap[b]? = some (.cells #[a0, a1, a2, a3, a4, a5] t)) : (w.setCell ⟨b, 0, none⟩ v).heap[b]? = some (.cells #[v, a1, a2, a3, a4, a5] t) := heap_setCell_same w b 0 _ _ v h
theorem six_set1 {w : World} {b : Nat} {a0 a1 a2 a3 a4 a5 v : Value} {t : TypeId} (h : w.heap[b]? = some (.cells #[a0, a1, a2, a3, a4, a5] t)) : (w.setCell ⟨b, 1, none⟩ v).heap[b]? = some (.cells #[a0, v, a2, a3, a4, a5] t) := heap_setCell_same w b 1 _ _ v h
theorem six_set2 {w : World} {b : Nat} {a0 a1 a2 a3 a4 a5 v : Value} {t : TypeId} (h : w.heap[b]? = some (.cells #[a0, a1, a2, a3, a4, a5] t)) : (w.setCell ⟨b, 2, none⟩ v).heap[b]? = some (.cells #[a0, a1, v, a3, a4, a5] t) := heap_setCell_same w b 2 _ _ v h
theorem six_set3 {w : World} {b : Nat} {a0 a1 a2 a3 a4 a5 v : Value} {t : TypeId} (h : w.heap[b]? = some (.cells #[a0, a1, a2, a3, a4, a5] t)) : (w.setCell ⟨b, 3, none⟩ v).heap[b]? = some (.cells #[a0, a1, a2, v, a4, a5] t) := heap_setCell_same w b 3 _ _ v h
theorem wp_numsR {ops : Array Oper} {rest : List Oper} {o : Oper} {a : Act} {Q : Exit → Act → World → Prop} (w : World) (hgd : o.guard = none) (s x : Operand)
    (ho : o.op = .call { callee := .builtin .append, args := #[s, x], argTypes := #[23, 23] }) (base : Nat) (v : Value) (es : List Int) (hs : a.eval s = v) (hown : NRow base w v es)
    (xa : Option Addr) (xc : Nat) (xs : List Int) (hxe : a.eval x = .slice xa xs.length xc) (hx : Nums w xa xs) (hnil : xa = none → xc = 0) (hlen : es.length + xs.length ≤ 100000) (hbase : base ≤ w.heap.size)
    (h : ∀ v' w', NRow base w' v' (es ++ xs) → w.grownBy w' v.ownBlock → (v'.ownBlock = v.ownBlock ∨ v'.ownBlock = some w.heap.size) → wpList Tryz.prog ops Q rest (a.put o.dst v') w') : wpList Tryz.prog ops Q (o :: rest) a w := by
  refine wpList_plain hgd fun K hK => ?_
  obtain ⟨v', w', hr, h2, h3, h4⟩ := numRun w base o.type v es hown xa xc xs hx hnil hlen hbase
  unfold Oper.wp execOp
  simp only [ho, resolve, invoke, builtin, Sem.run_bind, Sem.run_pure, Result.andThen_ok, List.map_toArray, List.map_cons, List.map_nil, hs, hxe, hr]
  exact hK _ _ (h v' w' h2 h3 h4)
def ElderNP (p : Nat) (r : Rd) (w : World) (e : Ending) (w' : World) : Prop := ∃ fa ea fc ec, e = .returned (elderV r.elder.1.t r.elder.1.g0 r.elder.1.g1 r.elder.1.nx (.slice fa r.elder.1.free.length fc) (.slice ea r.elder.1.es.length ec)) ∧ InE w' r.elder.1 fa ea fc ec ∧ NmAt p r.elder.2 w' ∧ Keep w (some p) w' ∧ Frsh w.heap.size fa ∧ Frsh w.heap.size ea
set_option maxHeartbeats 8000000 in
set_option maxRecDepth 100000 in
theorem nmElder_calls (p : Nat) (r : Rd) (w : World) (h : NmAt p r w) :
    Calls Tryz.prog 56 #[.pointer (some ⟨p, 0, none⟩)] w (ElderNP p r w) := by
  obtain ⟨W, hW⟩ : ∃ W, (w.alloc (.cells #[.int .i64 0, .int .i64 0, .int .i64 0, .int .i64 0, .slice none 0 0, .slice none 0 0] 26)).alloc (.cells #[.int .i64 0, .int .i64 0, .int .i64 0, .int .i64 0, .slice none 0 0, .slice none 0 0] 26) = W := ⟨_, rfl⟩
  have hbW : Below w.heap.size w W := by rw [← hW]; exact ((Below.refl _ w).alloc (Nat.le_refl _) _).alloc (by simp [go_sem]) _
  have hsW : W.heap.size = w.heap.size + 2 := by rw [← hW]; simp [go_sem]
  have hh0 : W.heap[w.heap.size]? = some (.cells #[.int .i64 0, .int .i64 0, .int .i64 0, .int .i64 0, .slice none 0 0, .slice none 0 0] 26) := by
    rw [← hW, heap_alloc_old _ _ (by simp [go_sem])]
    exact heap_alloc_new w _
  have hh1 : W.heap[w.heap.size + 1]? = some (.cells #[.int .i64 0, .int .i64 0, .int .i64 0, .int .i64 0, .slice none 0 0, .slice none 0 0] 26) := by
    have e : w.heap.size + 1 = (w.alloc (.cells #[.int .i64 0, .int .i64 0, .int .i64 0, .int .i64 0, .slice none 0 0, .slice none 0 0] 26)).heap.size := by simp [go_sem]
    rw [← hW, e]
    exact heap_alloc_new _ _
  have hp := h.lt
  have hM0 : MidM w p 26 #[.int .i64 0, .int .i64 0, .int .i64 0, .int .i64 0, .slice none 0 0, .slice none 0 0] #[.int .i64 0, .int .i64 0, .int .i64 0, .int .i64 0, .slice none 0 0, .slice none 0 0] r W := ⟨h.below hbW, hh1, hh0, (Keep.refl w (some p)).below hbW⟩
  obtain ⟨R1, hR1⟩ : ∃ R, (r).num = R := ⟨_, rfl⟩
  obtain ⟨R2, hR2⟩ : ∃ R, (R1.2).num = R := ⟨_, rfl⟩
  obtain ⟨R3, hR3⟩ : ∃ R, (R2.2).num = R := ⟨_, rfl⟩
  obtain ⟨R4, hR4⟩ : ∃ R, (R3.2).num = R := ⟨_, rfl⟩
  have HRR : Hid (r.many 4 = ([R1.1, R2.1, R3.1, R4.1], R4.2)) := by
    show _ = _
    simp only [Rd.many, hR1, hR2, hR3, hR4, List.nil_append, List.cons_append]
  have HC1 := hid (next_calls p r W hM0.rd)
  rw [hR1] at HC1
  have HM0 := hid hM0
  have HSW := hid hsW
  clear h hbW hsW hh0 hh1 hM0
  go_enter Tryz.func56, Tryz.ntmps56
  go_wp2_with fail
  refine HC1.out.mono ?_
  rintro e w1 ⟨rfl, h1, k1⟩
  have hM1 := HM0.out.call h1 k1 hp
  obtain ⟨x0, x1, x2, x3, x4, x5⟩ := elder_cells hM1.bx
  have xf := fun j => frozen_of_row w1 (w.heap.size + 1) j _ _ hM1.bx
  have HS1 := hid (hM1.set (v := .int .i64 R1.1) hp (six_set0 hM1.bx))
  have HC2 := hid (next_calls p R1.2 _ HS1.out.rd)
  rw [hR2] at HC2
  clear h1 k1 hM1 HC1 HM0 hW
  go_wp2_with fail
  refine HC2.out.mono ?_
  rintro e w2 ⟨rfl, h2, k2⟩
  have hM2 := HS1.out.call h2 k2 hp
  clear x0 x1 x2 x3 x4 x5 xf
  obtain ⟨x0, x1, x2, x3, x4, x5⟩ := elder_cells hM2.bx
  have xf := fun j => frozen_of_row w2 (w.heap.size + 1) j _ _ hM2.bx
  have HS2 := hid (hM2.set (v := .int .i64 R2.1) hp (six_set1 hM2.bx))
  have HC3 := hid (next_calls p R2.2 _ HS2.out.rd)
  rw [hR3] at HC3
  clear h2 k2 hM2 HC2 HS1
  go_wp2_with fail
  refine HC3.out.mono ?_
  rintro e w3 ⟨rfl, h3, k3⟩
  have hM3 := HS2.out.call h3 k3 hp
  clear x0 x1 x2 x3 x4 x5 xf
  obtain ⟨x0, x1, x2, x3, x4, x5⟩ := elder_cells hM3.bx
  have xf := fun j => frozen_of_row w3 (w.heap.size + 1) j _ _ hM3.bx
  have HS3 := hid (hM3.set (v := .int .i64 R3.1) hp (six_set2 hM3.bx))
  have HC4 := hid (next_calls p R3.2 _ HS3.out.rd)
  rw [hR4] at HC4
  clear h3 k3 hM3 HC3 HS2
  go_wp2_with fail
  refine HC4.out.mono ?_
  rintro e w4 ⟨rfl, h4, k4⟩
  have hM4 := HS3.out.call h4 k4 hp
  clear x0 x1 x2 x3 x4 x5 xf
  obtain ⟨x0, x1, x2, x3, x4, x5⟩ := elder_cells hM4.bx
  have xf := fun j => frozen_of_row w4 (w.heap.size + 1) j _ _ hM4.bx
  have HS4 := hid (hM4.set (v := .int .i64 R4.1) hp (six_set3 hM4.bx))
  have HCN := hid (upTo_calls p R4.2 200 (by decide) _ HS4.out.rd)
  clear h4 k4 hM4 HC4 HS3 hR1 hR2 hR3 hR4
  go_wp2_with fail
  refine HCN.out.mono ?_
  rintro e w5 ⟨rfl, h5, k5⟩
  have hM5 := HS4.out.call h5 k5 hp
  generalize R1.1 = t at hM5 HRR
  generalize R2.1 = g0 at hM5 HRR
  generalize R3.1 = g1 at hM5 HRR
  generalize R4.1 = nx at hM5 HRR
  have hs5 : w.heap.size + 2 ≤ w5.heap.size := by
    have h2 := (Array.getElem?_eq_some_iff.1 hM5.bx).1
    omega
  obtain ⟨N, hN⟩ : ∃ N : Nat, (R4.2.upTo 200).1 = (N : Int) := ⟨(R4.2.upTo 200).1.toNat, by have := (upTo_le R4.2 (m := 200) (by decide)).1; omega⟩
  have hN200 : N ≤ 200 := by have := (upTo_le R4.2 (m := 200) (by decide)).2; omega
  obtain ⟨F, hF⟩ : ∃ F, (R4.2.upTo 200).2 = F := ⟨_, rfl⟩
  rw [hN]
  rw [hF] at hM5
  have HN := hid hN
  have HF := hid hF
  have HM5 := hid hM5
  clear h5 k5 HCN HS4 x0 x1 x2 x3 x4 x5 hN hF hM5 xf
  go_wp2_with fail
  go_loopw [4] (fun i wr => ∃ (k d : Nat) (fv : Value), k + d = N ∧ i = .int .i64 d ∧ Hid (MidM w p 26 #[.int .i64 0, .int .i64 0, .int .i64 0, .int .i64 0, .slice none 0 0, .slice none 0 0] #[.int .i64 t, .int .i64 g0, .int .i64 g1, .int .i64 nx, fv, .slice none 0 0] (F.many k).2 wr ∧ NRow (w.heap.size + 2) wr fv (F.many k).1)) (fun i _ => (intOf i).toNat)
  case atStart =>
    have h00 : F.many 0 = ([], F) := rfl
    refine ⟨0, N, .slice none 0 0, by omega, rfl, hid ?_⟩
    rw [h00]
    exact ⟨HM5.out, World.ownsRow_nil _ _ _ _⟩
  case round =>
    obtain ⟨k, d, fv, hk, rfl, HR⟩ := hrel
    have HLEN : Hid ((F.many k).1.length = k) := many_length F k
    by_cases hlt : 0 < d
    · have hltz : (0 : Int) < (d : Int) := by omega
      have hrow := HR.out.2
      obtain ⟨fa, fc, rfl, hfl, _, _⟩ := hrow.open
      have hM1 := HR.out.1
      obtain ⟨Z, hZ⟩ : ∃ Z, ((F.many k).2).num = Z := ⟨_, rfl⟩
      have HNX1 : Hid ((F.many (k + 1)).1 = (F.many k).1 ++ [Z.1]) := by
        show _ = _
        rw [many_succ, hZ]
      have HNX2 : Hid ((F.many (k + 1)).2 = Z.2) := by
        show _ = _
        rw [many_succ, hZ]
      have HCE := hid (next_calls p (F.many k).2 wr hM1.rd)
      rw [hZ] at HCE
      have HMa := hid hM1
      have HWa := hid hrow
      clear hM1 hrow HR hZ
      go_wp2_with fail
      refine HCE.out.mono ?_
      rintro e we ⟨rfl, he, ke⟩
      have hMe := HMa.out.call he ke hp
      have hwe := row_keepP HWa.out ke (by omega)
      have HMd := hid hMe
      have HWd := hid hwe
      obtain ⟨_, _, _, _, x4, _⟩ := elder_cells hMe.bx
      have hse : w.heap.size + 2 ≤ we.heap.size := by have := (Array.getElem?_eq_some_iff.1 hMe.bx).1; omega
      clear he ke hMe hwe HCE HMa HWa
      go_wp2_with (at_builtin
                   obtain ⟨v1, hA⟩ : ∃ x, we.alloc (.cells #[.int .i64 Z.1] 3) = x := ⟨_, rfl⟩
                   have hb : Below we.heap.size we v1 := by rw [← hA]; exact (Below.refl _ _).alloc (Nat.le_refl _) _
                   have HM6 := hid (HMd.out.below hb)
                   have HW6 := hid (row_below HWd.out hb)
                   have HX6 : Hid (Nums v1 (some ⟨we.heap.size, 0, none⟩) [Z.1]) := by rw [← hA]; exact nums_one we Z.1 _
                   have hs6 := hb.size
                   rw [hA]
                   clear hb hA
                   refine wp_numsR _ rfl _ _ rfl (w.heap.size + 2) (.slice fa (F.many k).1.length fc) (F.many k).1 rfl HW6.out (some ⟨we.heap.size, 0, none⟩) 1 [Z.1] rfl HX6.out (fun h => by cases h) (by rw [HLEN.out]; show k + 1 ≤ 100000; omega) (by omega) ?_
                   intro v7 v2 hr7 hg7 _
                   have hM7 := HM6.out.grown hg7 (fun q hq => (World.ownsRow.lt HW6.out q hq).1) hp
                   have hr7' : NRow (w.heap.size + 2) v2 v7 (F.many (k + 1)).1 := by rw [HNX1.out]; exact hr7
                   obtain ⟨va7, vc7, rfl, _, _, _⟩ := hr7'.open
                   have HM7 := hid hM7
                   have HR7 := hid hr7'
                   have hS7 := hM7.bx
                   have y4 := cell_of_row v2 (w.heap.size + 1) 4 _ _ _ hS7
                   have yf := fun j => frozen_of_row v2 (w.heap.size + 1) j _ _ hS7
                   have HM8 := hid (hM7.set (v := .slice va7 (F.many (k + 1)).1.length vc7) hp (seven_set4 hS7))
                   have HR8 := hid (row_set hr7' (row_ne hr7' hS7 (by decide)) 4 (.slice va7 (F.many (k + 1)).1.length vc7))
                   clear hr7 hg7 hM7 hr7' hS7 HM6 HW6 HX6 x4)
      go_roundw
      case rel =>
        refine ⟨k + 1, d - 1, .slice va7 (F.many (k + 1)).1.length vc7, by omega, by go_num, hid ?_⟩
        rw [HNX2.out]
        exact ⟨HM8.out, HR8.out⟩
      case measure => simp [intOf]; omega
    · have hltz : ¬ (0 : Int) < (d : Int) := by omega
      have hd0 : d = 0 := by omega
      have hkN : k = N := by omega
      subst hkN hd0
      have hrow := HR.out.2
      obtain ⟨fa, fc, rfl, hfl, _, _⟩ := hrow.open
      have hM := HR.out.1
      obtain ⟨G, hG⟩ : ∃ G, F.many k = G := ⟨_, rfl⟩
      rw [hG] at hM hrow hfl
      have HGG : Hid (R4.2.row 200 = G) := by
        show _ = _
        unfold Rd.row
        rw [HN.out, HF.out, Int.toNat_natCast]
        exact hG
      have HCN := hid (upTo_calls p G.2 20 (by decide) wr hM.rd)
      have HMr := hid hM
      have HROW := hid hrow
      clear HR hM hrow HM5 HLEN hG
      go_wp2_with fail
      refine HCN.out.mono ?_
      rintro e w4 ⟨rfl, h4, k4⟩
      have hM4 := HMr.out.call h4 k4 hp
      have hrow4 := row_keepP HROW.out k4 (by omega)
      obtain ⟨M, hM⟩ : ∃ M : Nat, (G.2.upTo 20).1 = (M : Int) := ⟨(G.2.upTo 20).1.toNat, by have := (upTo_le G.2 (m := 20) (by decide)).1; omega⟩
      have hM20 : M ≤ 20 := by have := (upTo_le G.2 (m := 20) (by decide)).2; omega
      obtain ⟨E, hE⟩ : ∃ E, (G.2.upTo 20).2 = E := ⟨_, rfl⟩
      rw [hM]
      rw [hE] at hM4
      have HMM := hid hM
      have HEE := hid hE
      have HM4 := hid hM4
      have HROW4 : Hid (NRow (w.heap.size + 2) w4 (.slice fa G.1.length fc) G.1) := hrow4
      clear h4 k4 HCN HMr HROW hM hE hM4 hrow4
      go_wp2_with fail
      go_loopw [6] (fun i wr => ∃ (k d : Nat) (fv : Value), k + d = M ∧ i = .int .i64 d ∧ Hid (MidM w p 26 #[.int .i64 0, .int .i64 0, .int .i64 0, .int .i64 0, .slice none 0 0, .slice none 0 0] #[.int .i64 t, .int .i64 g0, .int .i64 g1, .int .i64 nx, .slice fa G.1.length fc, fv] (Rd.recs 10 E k).2 wr ∧ Row (w.heap.size + 2) wr fv (Rd.recs 10 E k).1 ∧ NRow (w.heap.size + 2) wr (.slice fa G.1.length fc) G.1)) (fun i _ => (intOf i).toNat)
      case atStart =>
        have h00 : Rd.recs 10 E 0 = ([], E) := rfl
        refine ⟨0, M, .slice none 0 0, by omega, rfl, hid ?_⟩
        rw [h00]
        exact ⟨HM4.out, World.ownsRow_nil _ _ _ _, HROW4.out⟩
      case round =>
        clear HM4 HROW4
        obtain ⟨k, d, fv, hk, rfl, HR⟩ := hrel
        have HLEN : Hid ((Rd.recs 10 E k).1.length = k) := recs_length 10 E k
        by_cases hlt : 0 < d
        · have hltz : (0 : Int) < (d : Int) := by omega
          have hrow := HR.out.2.1
          obtain ⟨ea, ec, rfl, hfl, _, _⟩ := hrow.open
          obtain ⟨Y, hY⟩ : ∃ Y, (Rd.recs 10 E k).2 = Y := ⟨_, rfl⟩
          have HNX : Hid (Rd.recs 10 E (k + 1) = ((Rd.recs 10 E k).1 ++ [(Y.many 10).1], (Y.many 10).2)) := by
            show _ = _
            rw [recs_succ, hY]
          obtain ⟨cs, hcs⟩ : ∃ cs : Array Value, cs = #[.int .i64 t, .int .i64 g0, .int .i64 g1, .int .i64 nx, .slice fa G.1.length fc, .slice ea (Rd.recs 10 E k).1.length ec] := ⟨_, rfl⟩
          have hM1 := HR.out.1
          rw [hY, ← hcs] at hM1
          have hsr : w.heap.size + 2 ≤ wr.heap.size := by have := (Array.getElem?_eq_some_iff.1 hM1.bx).1; omega
          obtain ⟨X, hX⟩ : ∃ X, wr.alloc (.cells #[.int .i64 0, .int .i64 0, .int .i64 0, .int .i64 0, .int .i64 0, .int .i64 0, .int .i64 0, .int .i64 0, .int .i64 0, .int .i64 0] 170) = X := ⟨_, rfl⟩
          have hbX : Below wr.heap.size wr X := by rw [← hX]; exact (Below.refl _ _).alloc (Nat.le_refl _) _
          have HLX : Hid (LAt wr.heap.size 10 170 [] X) := by
            refine ⟨_, by rw [← hX]; exact heap_alloc_new _ _, rfl, fun i hi => ?_⟩
            match i, hi with
            | 0, _ | 1, _ | 2, _ | 3, _ | 4, _ | 5, _ | 6, _ | 7, _ | 8, _ | 9, _ => rfl
          have HMX := hid (hM1.below hbX)
          have HRX := hid (row_below hrow hbX)
          have HQX := hid (row_below HR.out.2.2 hbX)
          have HSX : Hid (X.heap.size = wr.heap.size + 1) := by show _ = _; rw [← hX]; simp [go_sem]
          have HXE := hid hX
          obtain ⟨L, hL⟩ : ∃ L, wr.heap.size = L := ⟨_, rfl⟩
          rw [hL] at HLX hsr
          have HCS := hid hcs
          clear hM1 hrow HR hbX hX hY hcs
          go_upto_region 15 with fail
          rw [HXE.out]
          clear HXE
          go_wp2_with fail
          go_loopw [8] (fun i wx => ∃ j : Nat, j ≤ 10 ∧ i = .int .i64 j ∧ Hid (MidM w p 26 #[.int .i64 0, .int .i64 0, .int .i64 0, .int .i64 0, .slice none 0 0, .slice none 0 0] cs (Y.many j).2 wx ∧ Row (w.heap.size + 2) wx (.slice ea (Rd.recs 10 E k).1.length ec) (Rd.recs 10 E k).1 ∧ NRow (w.heap.size + 2) wx (.slice fa G.1.length fc) G.1 ∧ LAt L 10 170 (Y.many j).1 wx)) (fun i _ => 10 - (intOf i).toNat)
          case atStart => exact ⟨0, Nat.zero_le _, rfl, HMX.out, HRX.out, HQX.out, HLX.out⟩
          case round =>
            clear HMX HRX HQX HLX HSX hL
            obtain ⟨j, hj, rfl, HJ⟩ := hrel
            have HLJ : Hid ((Y.many j).1.length = j) := many_length Y j
            by_cases hjl : j < 10
            · have hjz : (j : Int) < 10 := by omega
              obtain ⟨Z, hZ⟩ : ∃ Z, ((Y.many j).2).num = Z := ⟨_, rfl⟩
              have HNJ : Hid (Y.many (j + 1) = ((Y.many j).1 ++ [Z.1], Z.2)) := by
                show _ = _
                rw [many_succ, hZ]
              have HCE := hid (next_calls p (Y.many j).2 wr HJ.out.1.rd)
              rw [hZ] at HCE
              clear hZ
              go_wp2_with fail
              refine HCE.out.mono ?_
              rintro e we ⟨rfl, he, ke⟩
              have hMe := HJ.out.1.call he ke hp
              have hwe := row_keepP HJ.out.2.1 ke (by omega)
              have hqe := row_keepP HJ.out.2.2.1 ke (by omega)
              have hle := HJ.out.2.2.2.blk (ke.2 L HJ.out.2.2.2.lt (fun e => by cases e; omega))
              have l0 : we.cell? ⟨L, j, none⟩ = some (.int .i64 (fld (Y.many j).1 j)) := hle.cell hjl
              have l1 := hle.frozen j
              have HFN : Hid (MidM w p 26 #[.int .i64 0, .int .i64 0, .int .i64 0, .int .i64 0, .slice none 0 0, .slice none 0 0] cs (Y.many (j + 1)).2 (we.setCell ⟨L, j, none⟩ (.int .i64 Z.1)) ∧ Row (w.heap.size + 2) (we.setCell ⟨L, j, none⟩ (.int .i64 Z.1)) (.slice ea (Rd.recs 10 E k).1.length ec) (Rd.recs 10 E k).1 ∧ NRow (w.heap.size + 2) (we.setCell ⟨L, j, none⟩ (.int .i64 Z.1)) (.slice fa G.1.length fc) G.1 ∧ LAt L 10 170 (Y.many (j + 1)).1 (we.setCell ⟨L, j, none⟩ (.int .i64 Z.1))) := by
                rw [HNJ.out]
                refine ⟨hMe.off hp hsr, row_set hwe (hle.row hwe (by decide)) _ _, row_set hqe (hle.row hqe (by decide)) _ _, ?_⟩
                have := hle.snoc (by rw [HLJ.out]; exact hjl) Z.1
                rw [HLJ.out] at this
                exact this
              clear he ke hMe hwe hqe hle HCE HJ HNJ
              go_wp2
              go_roundw
              case rel => exact ⟨j + 1, by omega, by go_num, HFN.out⟩
              case measure => simp [intOf]; omega
            · have hjz : ¬ (j : Int) < 10 := by omega
              have hj10 : j = 10 := by omega
              subst hj10
              obtain ⟨Q, hQ⟩ : ∃ Q, Y.many 10 = Q := ⟨_, rfl⟩
              rw [hQ] at HJ HNX
              obtain ⟨hMJ, hRJ, hQJ, hLJ⟩ := HJ.out
              have l0 : wr.cell? ⟨L, 0, none⟩ = some (.int .i64 (fld Q.1 0)) := hLJ.cell (by decide)
              have l1 : wr.cell? ⟨L, 1, none⟩ = some (.int .i64 (fld Q.1 1)) := hLJ.cell (by decide)
              have l2 : wr.cell? ⟨L, 2, none⟩ = some (.int .i64 (fld Q.1 2)) := hLJ.cell (by decide)
              have l3 : wr.cell? ⟨L, 3, none⟩ = some (.int .i64 (fld Q.1 3)) := hLJ.cell (by decide)
              have l4 : wr.cell? ⟨L, 4, none⟩ = some (.int .i64 (fld Q.1 4)) := hLJ.cell (by decide)
              have l5 : wr.cell? ⟨L, 5, none⟩ = some (.int .i64 (fld Q.1 5)) := hLJ.cell (by decide)
              have l6 : wr.cell? ⟨L, 6, none⟩ = some (.int .i64 (fld Q.1 6)) := hLJ.cell (by decide)
              have l7 : wr.cell? ⟨L, 7, none⟩ = some (.int .i64 (fld Q.1 7)) := hLJ.cell (by decide)
              have l8 : wr.cell? ⟨L, 8, none⟩ = some (.int .i64 (fld Q.1 8)) := hLJ.cell (by decide)
              have l9 : wr.cell? ⟨L, 9, none⟩ = some (.int .i64 (fld Q.1 9)) := hLJ.cell (by decide)
              rw [HCS.out] at hMJ
              obtain ⟨_, _, _, _, _, x5⟩ := elder_cells hMJ.bx
              have HMd := hid hMJ
              have HWd := hid hRJ
              have HQd := hid hQJ
              have hse : w.heap.size + 2 ≤ wr.heap.size := by have := (Array.getElem?_eq_some_iff.1 hMJ.bx).1; omega
              clear hMJ hRJ hQJ hLJ HJ HLJ hQ HCS
              go_wp2_with (at_builtin
                           obtain ⟨v1, hA⟩ : ∃ x, wr.alloc (.cells (entC Q.1) 119) = x := ⟨_, rfl⟩
                           have hb : Below wr.heap.size wr v1 := by rw [← hA]; exact (Below.refl _ _).alloc (Nat.le_refl _) _
                           have HM6 := hid (HMd.out.below hb)
                           have HW6 := hid (row_below HWd.out hb)
                           have HQ6 := hid (row_below HQd.out hb)
                           have HX6 : Hid (Recs v1 (some ⟨wr.heap.size, 0, none⟩) 10 [Q.1]) := by rw [← hA]; exact recs_one wr Q.1 _
                           have hs6 := hb.size
                           rw [hA]
                           clear hb hA
                           refine wp_rows _ rfl _ _ rfl (w.heap.size + 2) (.slice ea (Rd.recs 10 E k).1.length ec) (Rd.recs 10 E k).1 rfl HW6.out (some ⟨wr.heap.size, 0, none⟩) 1 [Q.1] rfl HX6.out (fun h => by cases h) (by rw [HLEN.out]; show k + 1 ≤ 100000; omega) (by omega) ?_
                           intro v7 v2 hr7 hg7 _
                           have hM7 := HM6.out.grown hg7 (fun q hq => (World.ownsRow.lt HW6.out q hq).1) hp
                           have hr7' : Row (w.heap.size + 2) v2 v7 (Rd.recs 10 E (k + 1)).1 := by rw [HNX.out]; exact hr7
                           obtain ⟨va7, vc7, rfl, _, _, _⟩ := hr7'.open
                           have hS7 := hM7.bx
                           have hq7 : NRow (w.heap.size + 2) v2 (.slice fa G.1.length fc) G.1 := row_other HQ6.out (fun g hg => hg7.block g (World.ownsRow.lt HQ6.out g hg).2 (fun e => rows_apart HQ6.out HW6.out (by decide) g hg e.symm))
                           have y4 := cell_of_row v2 (w.heap.size + 1) 5 _ _ _ hS7
                           have yf := fun j => frozen_of_row v2 (w.heap.size + 1) j _ _ hS7
                           have HM8 := hid (hM7.set (v := .slice va7 (Rd.recs 10 E (k + 1)).1.length vc7) hp (seven_set5 hS7))
                           have HR8 := hid (row_set hr7' (row_ne hr7' hS7 (by decide)) 5 (.slice va7 (Rd.recs 10 E (k + 1)).1.length vc7))
                           have HQ8 := hid (row_set hq7 (row_ne hq7 hS7 (by decide)) 5 (.slice va7 (Rd.recs 10 E (k + 1)).1.length vc7))
                           clear hr7 hg7 hM7 hr7' hS7 HM6 HW6 HX6 HQ6 hq7 x5 l0 l1 l2 l3 l4 l5 l6 l7 l8 l9)
              go_roundw
              case rel =>
                refine ⟨k + 1, d - 1, .slice va7 (Rd.recs 10 E (k + 1)).1.length vc7, by omega, by go_num, hid ?_⟩
                refine ⟨?_, HR8.out, HQ8.out⟩
                rw [show (Rd.recs 10 E (k + 1)).2 = Q.2 by rw [HNX.out]]
                exact HM8.out
              case measure => simp [intOf]; omega
        · have hltz : ¬ (0 : Int) < (d : Int) := by omega
          have hd0 : d = 0 := by omega
          have hkM : k = M := by omega
          subst hkM hd0
          have HNW : Hid (r.elder = (⟨t, g0, g1, nx, G.1, (Rd.recs 10 E k).1, []⟩, (Rd.recs 10 E k).2)) := by
            show _ = _
            unfold Rd.elder Rd.all
            rw [HRR.out]
            simp only
            rw [HGG.out, HMM.out, HEE.out, Int.toNat_natCast]
            rfl
          have hrow := HR.out.2.1
          have hfrow := HR.out.2.2
          obtain ⟨ea, ec, rfl, hel, _, _⟩ := hrow.open
          have hM := HR.out.1
          obtain ⟨y0, y1, y2, y3, y4, y5⟩ := elder_cells hM.bx
          obtain ⟨q0, q1, q2, q3, q4, q5⟩ := elder_cells hM.re
          have qf := fun j => frozen_of_row wr w.heap.size j _ _ hM.re
          have hno := row_ne hrow hM.re (by decide)
          have hnf := row_ne hfrow hM.re (by decide)
          have hG1s : ∀ z ∈ G.1, Sml z := by
            rw [← HGG.out]
            exact many_sml _ _
          have hin : ∀ (c0 c1 c2 c3 c4 c5 : Value), InE ((((((wr.setCell ⟨w.heap.size, 0, none⟩ c0).setCell ⟨w.heap.size, 1, none⟩ c1).setCell ⟨w.heap.size, 2, none⟩ c2).setCell ⟨w.heap.size, 3, none⟩ c3).setCell ⟨w.heap.size, 4, none⟩ c4).setCell ⟨w.heap.size, 5, none⟩ c5) ⟨t, g0, g1, nx, G.1, (Rd.recs 10 E k).1, []⟩ fa ea fc ec := fun c0 c1 c2 c3 c4 c5 => by
            have h5 : Row (w.heap.size + 2) ((((((wr.setCell ⟨w.heap.size, 0, none⟩ c0).setCell ⟨w.heap.size, 1, none⟩ c1).setCell ⟨w.heap.size, 2, none⟩ c2).setCell ⟨w.heap.size, 3, none⟩ c3).setCell ⟨w.heap.size, 4, none⟩ c4).setCell ⟨w.heap.size, 5, none⟩ c5) (.slice ea (Rd.recs 10 E k).1.length ec) (Rd.recs 10 E k).1 := row_set (row_set (row_set (row_set (row_set (row_set hrow hno 0 c0) hno 1 c1) hno 2 c2) hno 3 c3) hno 4 c4) hno 5 c5
            have h6 : NRow (w.heap.size + 2) ((((((wr.setCell ⟨w.heap.size, 0, none⟩ c0).setCell ⟨w.heap.size, 1, none⟩ c1).setCell ⟨w.heap.size, 2, none⟩ c2).setCell ⟨w.heap.size, 3, none⟩ c3).setCell ⟨w.heap.size, 4, none⟩ c4).setCell ⟨w.heap.size, 5, none⟩ c5) (.slice fa G.1.length fc) G.1 := row_set (row_set (row_set (row_set (row_set (row_set hfrow hnf 0 c0) hnf 1 c1) hnf 2 c2) hnf 3 c3) hnf 4 c4) hnf 5 c5
            obtain ⟨ea', ec', he, hel', hrec, _⟩ := h5.open
            cases he
            obtain ⟨fa', fc', hf, hfl', hnum, _⟩ := h6.open
            cases hf
            refine ⟨own_none h6, own_none h5, hel, hrec, hnum, fun i hi => sml_wf (hG1s _ ?_), rfl⟩
            have hi' : i < G.1.length := hi
            show fld G.1 i ∈ G.1
            unfold fld
            rw [List.getD_eq_getElem?_getD, List.getElem?_eq_getElem hi']
            exact List.getElem_mem _
          have HFE := hid (own_frsh (B := w.heap.size) hrow (by omega))
          have HFF := hid (own_frsh (B := w.heap.size) hfrow (by omega))
          have HIN := hid hin
          have HRD := hid hM.rd
          have HKP := hid hM.kp
          have hne : p ≠ w.heap.size := by omega
          clear HR hrow hfrow hM hin hno hnf HLEN HN HF hG1s HMM HEE
          go_wp2
          unfold ElderNP
          rw [HNW.out]
          refine bodyPost_ret (v := elderV t g0 g1 nx (.slice fa G.1.length fc) (.slice ea (Rd.recs 10 E k).1.length ec)) (by simp [results, Tryz.results56, go_sem, q0, q1, q2, q3, q4, q5]) rfl ⟨fa, ea, fc, ec, rfl, HIN.out _ _ _ _ _ _, ?_, ?_, HFF.out, HFE.out⟩
          · exact nm_off (nm_off (nm_off (nm_off (nm_off (nm_off HRD.out hne) hne) hne) hne) hne) hne
          · exact keep_off (keep_off (keep_off (keep_off (keep_off (keep_off HKP.out (Nat.le_refl _)) (Nat.le_refl _)) (Nat.le_refl _)) (Nat.le_refl _)) (Nat.le_refl _)) (Nat.le_refl _)
end Go.Proofs.YtcbalhicaipmlaaGreat
