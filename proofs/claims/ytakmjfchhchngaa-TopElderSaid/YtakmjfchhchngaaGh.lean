/- A tick under way: add. -/
import Derived.Test.YtakmjfchhchngaaGg
namespace Go.Proofs.Ytakmjfchhchngaa
open Go.RowKit Go.Maps

theorem GmE.drew {base : Nat} {w : World} {p : Nat} {s : St} {was : Int → Int} (h : GmE base w p s was) : GmE base w.drew p s was := by
  obtain ⟨ev, fv, bv, B, h⟩ := h
  exact ⟨ev, fv, bv, B, ⟨h.hp, h.er, h.fr, h.br, h.ct, h.bp, h.bB, h.fb⟩⟩
/- What an append to the row leaves as it was. -/
def AddF (w wx : World) (p : Nat) (ev ev' : Value) : Prop :=
  w.heap.size ≤ wx.heap.size ∧ (∀ k, k < w.heap.size → k ≠ p → ev.ownBlock ≠ some k → wx.heap[k]? = w.heap[k]?) ∧ (∀ k, ev'.ownBlock = some k → ev.ownBlock = some k ∨ w.heap.size ≤ k)
theorem AddF.frame {base : Nat} {w w' : World} {p : Nat} {ev fv bv ev' : Value} {B : Nat} {s s' : St} {was was' : Int → Int} (f : AddF w w' p ev ev') (h : Gm base w p ev fv bv B s was) (h' : Gm base w' p ev' fv bv B s' was') : Fr w w' p :=
  h.frame h' f.1 (fun k hk hp he _ _ _ => f.2.1 k hk hp he) f.2.2 (fun _ hk => Or.inl hk) (fun _ hk => Or.inl hk)
theorem AddF.turn {w wx wy : World} {p : Nat} {ev ev' : Value} (f : AddF w wx p ev ev') (hs : wx.heap.size ≤ wy.heap.size) (ho : ∀ k, ev'.ownBlock ≠ some k → k < wx.heap.size → wy.heap[k]? = wx.heap[k]?) : AddF w wy p ev ev' :=
  ⟨Nat.le_trans f.1 hs, fun k hk hp he => (ho k (fun e => by
    rcases f.2.2 k e with x | x
    · exact he x
    · omega) (by have := f.1; omega)).trans (f.2.1 k hk hp he), f.2.2⟩
theorem put10_other (w : World) (g m : Nat) (u : List Int) (k : Nat) (h : k ≠ g) : (put10 w g m u).heap[k]? = w.heap[k]? := by
  unfold put10
  rw [heap_setCell_other _ _ _ _ (fun e => h e), heap_setCell_other _ _ _ _ (fun e => h e), heap_setCell_other _ _ _ _ (fun e => h e), heap_setCell_other _ _ _ _ (fun e => h e), heap_setCell_other _ _ _ _ (fun e => h e), heap_setCell_other _ _ _ _ (fun e => h e), heap_setCell_other _ _ _ _ (fun e => h e), heap_setCell_other _ _ _ _ (fun e => h e), heap_setCell_other _ _ _ _ (fun e => h e), heap_setCell_other _ _ _ _ (fun e => h e)]
theorem Fr.drew {a b : World} {p : Nat} (h : Fr a b p) : Fr a b.drew p := ⟨h.1, fun k hk ha => ⟨(h.2 k hk ha).1, (h.2 k hk ha).2.1, fun j v hv => (h.2 k hk ha).2.2 j v hv⟩⟩
theorem recs_one (w : World) (u : List Int) (t : TypeId) : Recs (w.alloc (.cells (entC u) t)) (some ⟨w.heap.size, 0, none⟩) 10 [u] := by
  refine Or.inr ⟨w.heap.size, 0, rfl, fun i hi j hj => ?_⟩
  have h0 : i = 0 := by simpa using hi
  subst h0
  rw [Nat.zero_mul, Nat.zero_add, World.cell?_alloc_at _ _ _ _ rfl]
  match j, hj with
  | 0, _ => rfl
  | 1, _ => rfl
  | 2, _ => rfl
  | 3, _ => rfl
  | 4, _ => rfl
  | 5, _ => rfl
  | 6, _ => rfl
  | 7, _ => rfl
  | 8, _ => rfl
  | 9, _ => rfl

set_option maxRecDepth 100000 in
set_option maxHeartbeats 4000000 in
theorem add_calls (base p : Nat) (s : St) (was : Int → Int) (u : List Int) (w : World) (hn : s.es.length ≤ 100) (h : GmE base w p s was) :
    Calls Try.prog 144 #[.pointer (some ⟨p, 0, none⟩), entV u] w fun e w' => e = .returned (.tuple #[]) ∧ GmE base w' p { s with es := insE s.es u } was ∧ Below base w w' ∧ Fr w w' p := by
  obtain ⟨ev, fv, bv, B, h⟩ := h
  obtain ⟨ea, c, rfl, hcap, hrecs, hg0⟩ := h.er.open
  have hlt := h.lt
  have hbp := h.bp
  have hbw : base ≤ w.heap.size := by omega
  obtain ⟨w1, hw1⟩ : ∃ w1, w1 = w.alloc (.cells (entC u) 86) := ⟨_, rfl⟩
  have hb1 : Below w.heap.size w w1 := by rw [hw1]; exact (Below.refl _ w).alloc (Nat.le_refl _) _
  have hs1 : w1.heap.size = w.heap.size + 1 := by rw [hw1]; simp [go_sem]
  have e0 : w1.cell? ⟨w.heap.size, 0, none⟩ = some (.int .i64 (fld u 0)) := by rw [hw1]; simp [go_sem]
  have hu10 : w1.heap[w.heap.size]? = some (.cells (entC u) 86) := by rw [hw1]; exact heap_alloc_new w _
  have eg : ∀ args w, (callFunc 150 args).run Try.prog w = .ok (.enter 150 args) w := enters_of Try.func150 (by kernel_rfl) rfl
  have HC := hid (indexFunc_calls 150 #[.pointer (some ⟨w.heap.size, 0, none⟩)] eg (isAbove (fld u 0)) s.es ea c w1 (by omega) (hrecs.below hb1) (fun W r hb => add1_calls u w.heap.size w1 (by omega) e0 W r hb))
  have HG := hid (h.below hb1)
  have HGm0 := hid h
  have HE0 : Hid (∀ k, (Value.slice ea s.es.length c).ownBlock = some k → k < w.heap.size) := fun k hk => (World.ownsRow.lt h.er k hk).2
  obtain ⟨c0, c1, c2, c3, c4, c5, c6, c7⟩ := (h.below hb1).eight
  have HB1 := hid hb1
  have HS1 := hid hs1
  have HU := hid hu10
  have HW1 := hid hw1
  clear h hrecs hg0 eg e0 hb1 hs1 hu10 c0 c1 c2 c3 c4 c6 c7
  go_enter Try.func144, Try.ntmps144
  have hsx : (w.alloc (.cells (entC u) 86)) = w1 := hw1.symm
  clear hw1
  go_wp2_with fail
  refine HC.out.mono ?_
  clear HC hsx c5
  rintro e w2 ⟨rfl, hb2⟩
  have hG2 := HG.out.below hb2
  have hs2 : w.heap.size + 1 ≤ w2.heap.size := by have h := hb2.size; rw [HS1.out] at h; exact h
  have hu2 : w2.heap[w.heap.size]? = some (.cells (entC u) 86) := (hb2.block w.heap.size (by rw [HS1.out]; omega)).trans HU.out
  have HBB := hid (HB1.out.trans (hb2.mono (by rw [HS1.out]; omega)))
  have HB2 : Hid (Below base w w2) := HBB.out.mono hbw
  have hxc : ∀ j, w2.cell? ⟨w.heap.size, j, none⟩ = (entC u)[j]? := fun j => cell_of_row w2 w.heap.size j _ _ _ hu2
  have x0 : w2.cell? ⟨w.heap.size, 0, none⟩ = some (.int .i64 (fld u 0)) := hxc 0
  have x1 : w2.cell? ⟨w.heap.size, 1, none⟩ = some (.int .i64 (fld u 1)) := hxc 1
  have x2 : w2.cell? ⟨w.heap.size, 2, none⟩ = some (.int .i64 (fld u 2)) := hxc 2
  have x3 : w2.cell? ⟨w.heap.size, 3, none⟩ = some (.int .i64 (fld u 3)) := hxc 3
  have x4 : w2.cell? ⟨w.heap.size, 4, none⟩ = some (.int .i64 (fld u 4)) := hxc 4
  have x5 : w2.cell? ⟨w.heap.size, 5, none⟩ = some (.int .i64 (fld u 5)) := hxc 5
  have x6 : w2.cell? ⟨w.heap.size, 6, none⟩ = some (.int .i64 (fld u 6)) := hxc 6
  have x7 : w2.cell? ⟨w.heap.size, 7, none⟩ = some (.int .i64 (fld u 7)) := hxc 7
  have x8 : w2.cell? ⟨w.heap.size, 8, none⟩ = some (.int .i64 (fld u 8)) := hxc 8
  have x9 : w2.cell? ⟨w.heap.size, 9, none⟩ = some (.int .i64 (fld u 9)) := hxc 9
  obtain ⟨c0, c1, c2, c3, c4, c5, c6, c7⟩ := hG2.eight
  have HG2 := hid hG2
  have HU2 := hid hu2
  have hp2 := hG2.lt
  clear hG2 hu2 hb2 hxc HG HU HB1 c0 c1 c2 c3 c4 c6 c7
  go_wp2_with fail
  go_cut [20] (fun r wx => ∃ va vc, Hid (Row base wx (.slice va (s.es.length + 1) vc) (s.es ++ [u]) ∧ Gm base wx p (.slice va (s.es.length + 1) vc) fv bv B { s with es := s.es ++ [u] } was ∧ wx.heap[w.heap.size]? = some (.cells (entC u) 86) ∧ Below base w wx ∧ (Value.slice va (s.es.length + 1) vc).ownBlock ≠ some w.heap.size ∧ AddF w wx p (.slice ea s.es.length c) (.slice va (s.es.length + 1) vc)))
  case first =>
    go_region_law (refine step_rows rfl (.tmp 17) (.tmp 19) rfl base (.slice ea s.es.length c) s.es (by simp [Act.eval]) (World.ownsRow.alloc HG2.out.er _) (some ⟨w2.heap.size, 0, none⟩) 1 [u] (by simp [Act.eval]) (recs_one w2 u _) (by simp) (by simp; omega) (by simp [go_sem]; omega) ?_
                   intro v' w' hr hg hl
                   have hl1 : (s.es ++ [u]).length = s.es.length + 1 := by simp
                   have hr' := hr
                   obtain ⟨va, vc, rfl, _, _, _⟩ := hr'.open
                   rw [hl1] at hr ⊢
                   have hg' : (w2.alloc (.cells (entC u) 86)).grownBy w' (Value.slice ea s.es.length c).ownBlock := ⟨hg.os, hg.tape, hg.output, hg.size, hg.block⟩
                   obtain ⟨kp, kf, kb, kc⟩ := (HG2.out.below ((Below.refl _ w2).alloc (Nat.le_refl _) _)).grownE hg'
                   have f5 := frozen_of_row w' p 5 _ _ kp
                   have d5 : w'.cell? ⟨p, 5, none⟩ = some (.slice ea s.es.length c) := cell_of_row w' p 5 _ _ _ kp
                   have hGn := gm_pset kp kc HG2.out.bp HG2.out.bB 5 (.slice va (s.es.length + 1) vc) (s' := { s with es := s.es ++ [u] }) (ev' := .slice va (s.es.length + 1) vc) (fv' := fv) (bv' := bv) rfl hr kf kb HG2.out.fb
                   have hne : p ≠ w.heap.size := by omega
                   have hXn : (w'.setCell ⟨p, 5, none⟩ (.slice va (s.es.length + 1) vc)).heap[w.heap.size]? = some (.cells (entC u) 86) := by
                     rw [heap_setCell_other w' ⟨p, 5, none⟩ w.heap.size _ (fun e => hne e.symm), hg'.block w.heap.size (by simp [go_sem]; omega) (fun e => by have := HE0.out _ e.symm; omega), heap_alloc_old _ _ (by omega)]
                     exact HU2.out
                   have hBn : Below base w (w'.setCell ⟨p, 5, none⟩ (.slice va (s.es.length + 1) vc)) := ((HB2.out.alloc (by omega) _).grown hg' (by simp [go_sem]; omega) (fun k hk => (World.ownsRow.lt HG2.out.er k hk).1)).setCell (p := ⟨p, 5, none⟩) hbp _
                   have hOn : (Value.slice va (s.es.length + 1) vc).ownBlock ≠ some w.heap.size := by
                     intro e
                     rw [hl1] at hl
                     rcases hl with hl | hl
                     · have := HE0.out w.heap.size (hl.symm.trans e)
                       omega
                     · have h2 := hl.symm.trans e
                       simp [go_sem] at h2
                       omega
                   have hAn : AddF w (w'.setCell ⟨p, 5, none⟩ (.slice va (s.es.length + 1) vc)) p (.slice ea s.es.length c) (.slice va (s.es.length + 1) vc) := by
                     refine ⟨?_, ?_, ?_⟩
                     · have h1 := hg'.size
                       simp [go_sem] at h1 ⊢
                       omega
                     · intro k hk hkp hke
                       rw [heap_setCell_other w' ⟨p, 5, none⟩ k _ (fun e => hkp e), hg'.block k (by simp [go_sem]; omega) (fun e => hke e.symm), heap_alloc_old _ _ (by omega)]
                       exact HBB.out.block k hk
                     · intro k hk
                       rw [hl1] at hl
                       rcases hl with hl | hl
                       · exact Or.inl (hl.symm.trans hk)
                       · have h2 := hl.symm.trans hk
                         simp [go_sem] at h2
                         exact Or.inr (by omega)
                   have HAn := hid hAn
                   have HOn := hid hOn
                   have HGn := hid hGn
                   have HXn := hid hXn
                   have HBn := hid hBn
                   clear hr hr' hg hl hg' kp kf kb kc hGn hXn hBn hne hl1 hOn hAn)
    all_goals
      go_wp2
      go_meet
      exact ⟨_, _, HGn.out.er, HGn.out, HXn.out, HBn.out, HOn.out, HAn.out⟩
  case rest =>
    clear x0 x1 x2 x3 x4 x5 x6 x7 x8 x9 c5 HG2 HU2 HB2 HE0
    obtain ⟨va, vc, HM⟩ := hcut
    by_cases hz : idxZ (isAbove (fld u 0)) s.es < 0
    · have HE : Hid (insE s.es u = s.es ++ [u]) := by show _ = _; unfold insE; rw [if_pos hz]
      go_wp2
      go_end0
      exact ⟨rfl, by rw [HE.out]; exact ⟨_, _, _, _, HM.out.2.1⟩, HM.out.2.2.2.1, HM.out.2.2.2.2.2.frame HGm0.out HM.out.2.1⟩
    · obtain ⟨k, hk⟩ : ∃ k : Nat, idxZ (isAbove (fld u 0)) s.es = k := ⟨(idxZ (isAbove (fld u 0)) s.es).toNat, by omega⟩
      have hkl : k < s.es.length := by have := (idxZ_bd (isAbove (fld u 0)) s.es).2; omega
      have HE : Hid (insE s.es u = s.es.take k ++ u :: s.es.drop k) := by
        show _ = _
        unfold insE
        rw [if_neg hz, hk]
        rfl
      rw [hk]
      clear hz hk
      have hG3 := HM.out.2.1
      have hlen : ({ s with es := s.es ++ [u] } : St).es.length = s.es.length + 1 := by simp
      obtain ⟨ea', c', hev, hcap', hrec', hg0'⟩ := hG3.er.open
      rw [hlen] at hev hcap' hg0'
      obtain ⟨g, hg, hbg, hgl⟩ := hg0' (by omega)
      cases hev
      subst hg
      have hnc1 : ¬ vc = k + 1 := by omega
      have hnc2 : ¬ vc = k := by omega
      have hlz1 : (k : Int) + 1 ≤ ((s.es.length + 1 : Nat) : Int) := by omega
      have hlz2 : (k : Int) ≤ ((s.es.length + 1 : Nat) : Int) := by omega
      have hkz0 : (0 : Int) ≤ (k : Int) := by omega
      have hkz1 : (k : Int) ≤ 1000 := by omega
      have hwrp : IntKind.i64.wrap ((k : Int) + 1) = (k : Int) + 1 := IntWalk.i64_in _ ⟨by omega, by omega⟩
      have h01 : (0 : Int) ≤ (k : Int) + 1 := by omega
      have htn : ((k : Int) + 1).toNat = k + 1 := by omega
      have hkle : (k : Int) ≤ (s.es.length : Int) := by omega
      have hkle1 : (k : Int) ≤ (s.es.length : Int) + 1 := by omega
      have hcz1 : ((s.es.length + 1 : Nat) : Int) ≤ (vc : Int) := by omega
      obtain ⟨c0, c1, c2, c3, c4, c5, c6, c7⟩ := hG3.eight
      have HG3 := hid hG3
      clear hG3 hrec' hg0' hlen c0 c1 c2 c3 c4 c6 c7
      go_wp2_with fail
      have HROW : Hid (Row base wc (.slice (some ⟨g, 0, none⟩) (s.es ++ [u]).length vc) (s.es ++ [u])) := by
        have h := HG3.out.er
        rw [List.length_append]
        exact h
      have HN : Hid (g ≠ w.heap.size) := fun e => HM.out.2.2.2.2.1 (by rw [e]; rfl)
      go_cut [33] (fun _ wx => Hid (Gm base wx p (.slice (some ⟨g, 0, none⟩) (s.es.length + 1) vc) fv bv B { s with es := (s.es ++ [u]).take (k + 1) ++ ((s.es ++ [u]).drop k).take (s.es.length - k) ++ (s.es ++ [u]).drop (k + 1 + (s.es.length - k)) } was ∧ wx.heap[w.heap.size]? = some (.cells (entC u) 86) ∧ Below base w wx ∧ AddF w wx p (.slice ea s.es.length c) (.slice (some ⟨g, 0, none⟩) (s.es.length + 1) vc)))
      case first =>
        go_region_law (refine step_copies rfl (.tmp 33) (.tmp 40) rfl base g vc (s.es ++ [u]) (k + 1) k (World.ownsRow.drew HROW.out) (some ⟨g, (k + 1) * 10, none⟩) (some ⟨g, k * 10, none⟩) (s.es.length - k) (vc - (k + 1)) (s.es.length + 1 - k) (vc - k) (s.es.length - k) (by simp [Act.eval, Act.put]) (by simp [Act.eval, Act.put]) (by simp; omega) (by simp; omega) (Nat.min_eq_right (by omega)).symm (fun _ => ⟨rfl, rfl⟩) ?_
                       intro w' hr hg
                       have HRw := hid hr
                       have HGw := hid (drew_grown hg)
                       clear hr hg)
        all_goals
          go_wp2
          go_meet
          obtain ⟨kp, kf, kb, kc⟩ := HG3.out.grownE HGw.out
          have hl1 : (s.es ++ [u]).length = s.es.length + 1 := by simp
          have hr := HRw.out
          rw [hl1] at hr
          have hlt3 : w.heap.size < wc.heap.size := (Array.getElem?_eq_some_iff.1 HM.out.2.2.1).1
          refine ⟨⟨kp, hr, kf, kb, kc, HG3.out.bp, HG3.out.bB, HG3.out.fb⟩, ?_, ?_, HM.out.2.2.2.2.2.turn HGw.out.size (fun k hk hkl => HGw.out.block k hkl (fun e => hk e.symm))⟩
          · rw [HGw.out.block w.heap.size hlt3 (fun e => HN.out (by simpa using e.symm))]
            exact HM.out.2.2.1
          · exact below_grown HM.out.2.2.2.1 HGw.out hbg (by omega)
      case rest =>
        clear HM HG3 HROW c5
        obtain ⟨hGc, hXc, hBc, hAc⟩ := hcut.out
        have hset := ins_moved (u := u) hkl
        have hLl : ((s.es ++ [u]).take (k + 1) ++ ((s.es ++ [u]).drop k).take (s.es.length - k) ++ (s.es ++ [u]).drop (k + 1 + (s.es.length - k))).length = s.es.length + 1 := by simp; omega
        generalize (s.es ++ [u]).take (k + 1) ++ ((s.es ++ [u]).drop k).take (s.es.length - k) ++ (s.es ++ [u]).drop (k + 1 + (s.es.length - k)) = L at hGc hset hLl
        have hkL : k < ({ s with es := L } : St).es.length := by show k < L.length; omega
        have hxc : ∀ j, wc.cell? ⟨w.heap.size, j, none⟩ = (entC u)[j]? := fun j => cell_of_row wc w.heap.size j _ _ _ hXc
        obtain ⟨hc, hf⟩ := hGc.er.ten hkL
        have x0 : wc.cell? ⟨w.heap.size, 0, none⟩ = some (.int .i64 (fld u 0)) := hxc 0
        have x1 : wc.cell? ⟨w.heap.size, 1, none⟩ = some (.int .i64 (fld u 1)) := hxc 1
        have x2 : wc.cell? ⟨w.heap.size, 2, none⟩ = some (.int .i64 (fld u 2)) := hxc 2
        have x3 : wc.cell? ⟨w.heap.size, 3, none⟩ = some (.int .i64 (fld u 3)) := hxc 3
        have x4 : wc.cell? ⟨w.heap.size, 4, none⟩ = some (.int .i64 (fld u 4)) := hxc 4
        have x5 : wc.cell? ⟨w.heap.size, 5, none⟩ = some (.int .i64 (fld u 5)) := hxc 5
        have x6 : wc.cell? ⟨w.heap.size, 6, none⟩ = some (.int .i64 (fld u 6)) := hxc 6
        have x7 : wc.cell? ⟨w.heap.size, 7, none⟩ = some (.int .i64 (fld u 7)) := hxc 7
        have x8 : wc.cell? ⟨w.heap.size, 8, none⟩ = some (.int .i64 (fld u 8)) := hxc 8
        have x9 : wc.cell? ⟨w.heap.size, 9, none⟩ = some (.int .i64 (fld u 9)) := hxc 9
        have l0 : wc.cell? ⟨g, k * 10, none⟩ = some (.int .i64 (fld (rec ({ s with es := L } : St).es k) 0)) := hc 0 (by omega)
        have l1 := hc 1 (by omega)
        have l2 := hc 2 (by omega)
        have l3 := hc 3 (by omega)
        have l4 := hc 4 (by omega)
        have l5 := hc 5 (by omega)
        have l6 := hc 6 (by omega)
        have l7 := hc 7 (by omega)
        have l8 := hc 8 (by omega)
        have l9 := hc 9 (by omega)
        have f0 := hf (k * 10)
        have f1 := hf (k * 10 + 1)
        have f2 := hf (k * 10 + 2)
        have f3 := hf (k * 10 + 3)
        have f4 := hf (k * 10 + 4)
        have f5 := hf (k * 10 + 5)
        have f6 := hf (k * 10 + 6)
        have f7 := hf (k * 10 + 7)
        have f8 := hf (k * 10 + 8)
        have f9 := hf (k * 10 + 9)
        obtain ⟨c0, c1, c2, c3, c4, c5, c6, c7⟩ := hGc.eight
        have hGp := gm_put10 hGc hkL u
        have HGp := hid hGp
        have HSET := hid hset
        have HBc := hid (below_put10 (m := k * 10) (u := u) hBc hbg)
        have HAc : Hid (AddF w (put10 wc g (k * 10) u) p (.slice ea s.es.length c) (.slice (some ⟨g, 0, none⟩) (s.es.length + 1) vc)) := hAc.turn (by simp [put10]) (fun q hq _ => put10_other _ _ _ _ _ (fun e => hq (by rw [e]; rfl)))
        clear hcut hGc hXc hBc hAc hset hxc hc hf hGp c0 c1 c2 c3 c4 c6 c7 hLl
        go_wp2_with fail
        go_region
        all_goals
          go_wp2
          go_end0
          refine ⟨rfl, ?_, ?_, ?_⟩
          · rw [HE.out]
            have h := HGp.out
            simp only [HSET.out] at h
            have h2 : GmE base (put10 wc g (k * 10) u) p { s with es := s.es.take k ++ u :: s.es.drop k } was := ⟨_, _, _, _, h⟩
            show GmE base (World.drew (put10 wc g (k * 10) u)) p _ was
            exact GmE.drew h2
          · show Below base w (World.drew (put10 wc g (k * 10) u))
            exact HBc.out.drew
          · show Fr w (World.drew (put10 wc g (k * 10) u)) p
            exact Fr.drew (HAc.out.frame HGm0.out HGp.out)
end Go.Proofs.Ytakmjfchhchngaa
