/- Package snap: states are read. -/
import Derived.Test.YtcbalhicaipmlaaGreatRNwK
import Derived.Test.YtcbalhicaipmlaaGreatRSnJ
import Derived.Test.YtcbalhicaipmlaaGreatRSnK
namespace Go.Proofs.YtcbalhicaipmlaaGreat
open Go.RowKit
theorem many_succ (r : Rd) (n : Nat) : r.many (n + 1) = ((r.many n).1 ++ [(r.many n).2.num.1], (r.many n).2.num.2) := by rw [Rd.many]
theorem recs_succ (k : Nat) (r : Rd) (n : Nat) : Rd.recs k r (n + 1) = ((Rd.recs k r n).1 ++ [((Rd.recs k r n).2.many k).1], ((Rd.recs k r n).2.many k).2) := by rw [Rd.recs]
theorem rd_grown {p : Nat} {r : Rd} {w w' : World} {ob : Option Nat} (h : RdAt p r w) (hg : w.grownBy w' ob) (hn : ob ≠ some p) : RdAt p r w' := by
  obtain ⟨x, h1, h2, h3⟩ := h
  exact ⟨x, (hg.block p (Array.getElem?_eq_some_iff.1 h1).1 (fun e => hn e.symm)).trans h1, h2, h3⟩
theorem keep_grown {W w w' : World} {ob ro : Option Nat} (h : Keep W ob w) (hg : w.grownBy w' ro) (hn : ∀ k, ro = some k → W.heap.size ≤ k) : Keep W ob w' :=
  ⟨h.1.trans ⟨hg.os, hg.tape, hg.output, hg.size, fun k hk => absurd hk (Nat.not_lt_zero _)⟩, fun k hk ho => (hg.block k (Nat.lt_of_lt_of_le hk h.1.size) (fun e => by have := hn k e.symm; omega)).trans (h.2 k hk ho)⟩
theorem row_keepP {w w' : World} {base p : Nat} {e : TypeId} {size : Nat} {v : Value} {n : Nat} {xs : List Value} (h : w.ownsRow base e size v n xs) (hk : Keep w (some p) w') (hp : p < base) : w'.ownsRow base e size v n xs :=
  row_other h fun g hg => by
    have h1 := World.ownsRow.lt h g hg
    exact hk.2 g h1.2 (fun e => by cases e; omega)
theorem rows_apart {w : World} {base base' : Nat} {e e' : TypeId} {size size' : Nat} {v v' : Value} {n n' : Nat} {xs xs' : List Value} (h : w.ownsRow base e size v n xs) (h' : w.ownsRow base' e' size' v' n' xs') (he : e ≠ e') (g : Nat) (hg : v.ownBlock = some g) : v'.ownBlock ≠ some g := by
  rcases h.2 with ⟨rfl, _⟩ | ⟨q, cap, cur, rfl, hbg, hgg, rest⟩
  · cases hg
  · simp only [Value.ownBlock, Option.some.injEq] at hg
    subst hg
    exact row_ne h' hgg he
def Frsh (B : Nat) (a : Option Addr) : Prop := ∀ b o, a = some ⟨b, o, none⟩ → B ≤ b
theorem own_frsh {w : World} {base B : Nat} {e : TypeId} {size : Nat} {a : Option Addr} {m c n : Nat} {xs : List Value} (h : w.ownsRow base e size (.slice a m c) n xs) (hB : B ≤ base) : Frsh B a := by
  intro b o ha
  rcases h.2 with ⟨hv, _⟩ | ⟨g, cap, cur, hv, hbg, _⟩
  · cases hv; cases ha
  · cases hv; cases ha; omega
theorem own_none {w : World} {base : Nat} {e : TypeId} {size : Nat} {a : Option Addr} {m c n : Nat} {xs : List Value} (h : w.ownsRow base e size (.slice a m c) n xs) (ha : a = none) : c = 0 := by
  rcases h.2 with ⟨hv, _⟩ | ⟨g, cap, cur, hv, _⟩
  · cases hv; rfl
  · cases hv; cases ha
theorem num_sml (r : Rd) : Sml r.num.1 := by
  unfold Rd.num
  split
  · exact ⟨Int.le_refl _, show (0 : Int) < 9223372036854775808 by decide⟩
  · split
    next h1 =>
      obtain ⟨_, h3⟩ := Nu.take_ok r.l (Nu.take r.l).1 (Nu.take r.l).2.1 (by rw [← h1])
      exact ⟨by simp, by simp only; omega⟩
    · exact ⟨Int.le_refl _, show (0 : Int) < 9223372036854775808 by decide⟩
theorem many_sml (r : Rd) : ∀ n, ∀ z ∈ (r.many n).1, Sml z
  | 0, _, hz => by cases hz
  | n + 1, z, hz => by
    unfold Rd.many at hz
    rcases List.mem_append.1 hz with hz | hz
    · exact many_sml r n z hz
    · rw [List.mem_singleton.1 hz]
      exact num_sml _
theorem sml_wf {z : Int} (h : Sml z) : (Lit.int .i64 z).wf = true := by
  obtain ⟨h1, h2⟩ := h
  exact WalkArith.wf_i64 ⟨by omega, by omega⟩
theorem upTo_le (r : Rd) {m : Int} (hm : 0 ≤ m) : 0 ≤ (r.upTo m).1 ∧ (r.upTo m).1 ≤ m := by
  unfold Rd.upTo
  split
  · exact ⟨Int.le_refl _, hm⟩
  · exact ⟨(num_sml r).1, by omega⟩
theorem seven_set4 {w : World} {b : Nat} {a0 a1 a2 a3 a4 a5 v : Value} {t : TypeId} (h : w.heap[b]? = some (.cells #[a0, a1, a2, a3, a4, a5] t)) : (w.setCell ⟨b, 4, none⟩ v).heap[b]? = some (.cells #[a0, a1, a2, a3, v, a5] t) := heap_setCell_same w b 4 _ _ v h
theorem seven_set5 {w : World} {b : Nat} {a0 a1 a2 a3 a4 a5 v : Value} {t : TypeId} (h : w.heap[b]? = some (.cells #[a0, a1, a2, a3, a4, a5] t)) : (w.setCell ⟨b, 5, none⟩ v).heap[b]? = some (.cells #[a0, a1, a2, a3, a4, v] t) := heap_setCell_same w b 5 _ _ v h
theorem five_set4 {w : World} {b : Nat} {a0 a1 a2 a3 a4 v : Value} {t : TypeId} (h : w.heap[b]? = some (.cells #[a0, a1, a2, a3, a4] t)) : (w.setCell ⟨b, 4, none⟩ v).heap[b]? = some (.cells #[a0, a1, a2, a3, v] t) := heap_setCell_same w b 4 _ _ v h
theorem head_set6 {w : World} {b : Nat} {a0 a1 a2 a3 a4 a5 c0 c1 c2 c3 : Value} {t : TypeId} (h : w.heap[b]? = some (.cells #[a0, a1, a2, a3, a4, a5] t)) : ((((w.setCell ⟨b, 0, none⟩ c0).setCell ⟨b, 1, none⟩ c1).setCell ⟨b, 2, none⟩ c2).setCell ⟨b, 3, none⟩ c3).heap[b]? = some (.cells #[c0, c1, c2, c3, a4, a5] t) :=
  heap_setCell_same _ b 3 _ _ c3 (heap_setCell_same _ b 2 _ _ c2 (heap_setCell_same _ b 1 _ _ c1 (heap_setCell_same w b 0 _ _ c0 h)))
theorem head_set5 {w : World} {b : Nat} {a0 a1 a2 a3 a4 c0 c1 c2 c3 : Value} {t : TypeId} (h : w.heap[b]? = some (.cells #[a0, a1, a2, a3, a4] t)) : ((((w.setCell ⟨b, 0, none⟩ c0).setCell ⟨b, 1, none⟩ c1).setCell ⟨b, 2, none⟩ c2).setCell ⟨b, 3, none⟩ c3).heap[b]? = some (.cells #[c0, c1, c2, c3, a4] t) :=
  heap_setCell_same _ b 3 _ _ c3 (heap_setCell_same _ b 2 _ _ c2 (heap_setCell_same _ b 1 _ _ c1 (heap_setCell_same w b 0 _ _ c0 h)))
theorem head_off {w : World} {b k : Nat} {c0 c1 c2 c3 : Value} (hn : k ≠ b) : ((((w.setCell ⟨b, 0, none⟩ c0).setCell ⟨b, 1, none⟩ c1).setCell ⟨b, 2, none⟩ c2).setCell ⟨b, 3, none⟩ c3).heap[k]? = w.heap[k]? :=
  (heap_setCell_other _ ⟨b, 3, none⟩ k _ hn).trans ((heap_setCell_other _ ⟨b, 2, none⟩ k _ hn).trans ((heap_setCell_other _ ⟨b, 1, none⟩ k _ hn).trans (heap_setCell_other _ ⟨b, 0, none⟩ k _ hn)))
structure MidR (w : World) (p : Nat) (T : TypeId) (zs cs : Array Value) (r : Rd) (wr : World) : Prop where
  rd : RdAt p r wr
  bx : wr.heap[w.heap.size + 1]? = some (.cells cs T)
  re : wr.heap[w.heap.size]? = some (.cells zs T)
  kp : Keep w (some p) wr
theorem MidR.call {w : World} {p : Nat} {T : TypeId} {zs cs : Array Value} {r r' : Rd} {wr wx : World} (h : MidR w p T zs cs r wr) (hr : RdAt p r' wx) (hk : Keep wr (some p) wx) (hp : p < w.heap.size) : MidR w p T zs cs r' wx :=
  ⟨hr, (hk.2 _ (Array.getElem?_eq_some_iff.1 h.bx).1 (fun e => by cases e; omega)).trans h.bx, (hk.2 _ (Array.getElem?_eq_some_iff.1 h.re).1 (fun e => by cases e; omega)).trans h.re, keep_trans h.kp hk⟩
theorem MidR.below {w : World} {p : Nat} {T : TypeId} {zs cs : Array Value} {r : Rd} {wr wx : World} (h : MidR w p T zs cs r wr) (hb : Below wr.heap.size wr wx) : MidR w p T zs cs r wx :=
  ⟨h.rd.below hb, (hb.block _ (Array.getElem?_eq_some_iff.1 h.bx).1).trans h.bx, (hb.block _ (Array.getElem?_eq_some_iff.1 h.re).1).trans h.re, h.kp.below hb⟩
theorem MidR.grown {w : World} {p : Nat} {T : TypeId} {zs cs : Array Value} {r : Rd} {wr wx : World} {ob : Option Nat} (h : MidR w p T zs cs r wr) (hg : wr.grownBy wx ob) (hn : ∀ k, ob = some k → w.heap.size + 2 ≤ k) (hp : p < w.heap.size) : MidR w p T zs cs r wx :=
  ⟨rd_grown h.rd hg (fun e => by have := hn p e; omega), (hg.block _ (Array.getElem?_eq_some_iff.1 h.bx).1 (fun e => by have := hn _ e.symm; omega)).trans h.bx, (hg.block _ (Array.getElem?_eq_some_iff.1 h.re).1 (fun e => by have := hn _ e.symm; omega)).trans h.re, keep_grown h.kp hg (fun k e => by have := hn k e; omega)⟩
theorem MidR.set {w : World} {p : Nat} {T : TypeId} {zs cs cs' : Array Value} {r : Rd} {wr : World} {j : Nat} {v : Value} (h : MidR w p T zs cs r wr) (hp : p < w.heap.size) (hc : (wr.setCell ⟨w.heap.size + 1, j, none⟩ v).heap[w.heap.size + 1]? = some (.cells cs' T)) : MidR w p T zs cs' r (wr.setCell ⟨w.heap.size + 1, j, none⟩ v) :=
  ⟨rd_off h.rd (by omega), hc, (heap_setCell_other wr ⟨w.heap.size + 1, j, none⟩ w.heap.size v (fun e => by have e' : w.heap.size = w.heap.size + 1 := e; omega)).trans h.re, keep_off h.kp (by omega)⟩
theorem MidR.head {w : World} {p : Nat} {T : TypeId} {zs cs cs' : Array Value} {r : Rd} {wr : World} {c0 c1 c2 c3 : Value} (h : MidR w p T zs cs r wr) (hp : p < w.heap.size) (hc : ((((wr.setCell ⟨w.heap.size + 1, 0, none⟩ c0).setCell ⟨w.heap.size + 1, 1, none⟩ c1).setCell ⟨w.heap.size + 1, 2, none⟩ c2).setCell ⟨w.heap.size + 1, 3, none⟩ c3).heap[w.heap.size + 1]? = some (.cells cs' T)) : MidR w p T zs cs' r ((((wr.setCell ⟨w.heap.size + 1, 0, none⟩ c0).setCell ⟨w.heap.size + 1, 1, none⟩ c1).setCell ⟨w.heap.size + 1, 2, none⟩ c2).setCell ⟨w.heap.size + 1, 3, none⟩ c3) := by
  obtain ⟨x, h1, h2, h3⟩ := h.rd
  exact ⟨⟨x, (head_off (by omega)).trans h1, h2, h3⟩, hc, (head_off (by omega)).trans h.re, keep_off (keep_off (keep_off (keep_off h.kp (by omega)) (by omega)) (by omega)) (by omega)⟩
set_option maxHeartbeats 8000000 in
set_option maxRecDepth 100000 in
theorem readNewer_calls (p : Nat) (r : Rd) (w : World) (h : RdAt p r w) :
    Calls Tryz.prog 59 #[.pointer (some ⟨p, 0, none⟩)] w fun e w' => ∃ ea ec, e = .returned (newerV r.newer.1.t r.newer.1.g0 r.newer.1.g1 r.newer.1.nx (.slice ea r.newer.1.es.length ec)) ∧ InW w' r.newer.1 ea ec ∧ RdAt p r.newer.2 w' ∧ Keep w (some p) w' ∧ Frsh w.heap.size ea := by
  obtain ⟨W, hW⟩ : ∃ W, (w.alloc (.cells #[.int .i64 0, .int .i64 0, .int .i64 0, .int .i64 0, .slice none 0 0] 32)).alloc (.cells #[.int .i64 0, .int .i64 0, .int .i64 0, .int .i64 0, .slice none 0 0] 32) = W := ⟨_, rfl⟩
  have hbW : Below w.heap.size w W := by rw [← hW]; exact ((Below.refl _ w).alloc (Nat.le_refl _) _).alloc (by simp [go_sem]) _
  have hsW : W.heap.size = w.heap.size + 2 := by rw [← hW]; simp [go_sem]
  have hh0 : W.heap[w.heap.size]? = some (.cells #[.int .i64 0, .int .i64 0, .int .i64 0, .int .i64 0, .slice none 0 0] 32) := by
    rw [← hW, heap_alloc_old _ _ (by simp [go_sem])]
    exact heap_alloc_new w _
  have hh1 : W.heap[w.heap.size + 1]? = some (.cells #[.int .i64 0, .int .i64 0, .int .i64 0, .int .i64 0, .slice none 0 0] 32) := by
    have e : w.heap.size + 1 = (w.alloc (.cells #[.int .i64 0, .int .i64 0, .int .i64 0, .int .i64 0, .slice none 0 0] 32)).heap.size := by simp [go_sem]
    rw [← hW, e]
    exact heap_alloc_new _ _
  have hp := h.lt
  have hM0 : MidR w p 32 #[.int .i64 0, .int .i64 0, .int .i64 0, .int .i64 0, .slice none 0 0] #[.int .i64 0, .int .i64 0, .int .i64 0, .int .i64 0, .slice none 0 0] r W := ⟨h.below hbW, hh1, hh0, (Keep.refl w (some p)).below hbW⟩
  have HC := hid (readHead_calls p r W hM0.rd)
  have HM0 := hid hM0
  have HSW := hid hsW
  obtain ⟨R, hR⟩ : ∃ R, r.many 4 = R := ⟨_, rfl⟩
  rw [hR] at HC
  have HRR := hid hR
  clear h hbW hsW hh0 hh1 hM0 hR
  go_enter Tryz.func59, Tryz.ntmps59
  go_wp2_with fail
  refine HC.out.mono ?_
  rintro e w2 ⟨rfl, h2, k2⟩
  have hM2 := HM0.out.call h2 k2 hp
  obtain ⟨x0, x1, x2, x3, x4, _⟩ := five_cells hM2.bx
  have xf := fun j => frozen_of_row w2 (w.heap.size + 1) j _ _ hM2.bx
  obtain ⟨t, ht⟩ : ∃ t, fld R.1 0 = t := ⟨_, rfl⟩
  obtain ⟨g0, hg0⟩ : ∃ t, fld R.1 1 = t := ⟨_, rfl⟩
  obtain ⟨g1, hg1⟩ : ∃ t, fld R.1 2 = t := ⟨_, rfl⟩
  obtain ⟨nx, hnx⟩ : ∃ t, fld R.1 3 = t := ⟨_, rfl⟩
  rw [ht, hg0, hg1, hnx]
  have HT := hid ht
  have HG0 := hid hg0
  have HG1 := hid hg1
  have HNX := hid hnx
  obtain ⟨V, hV⟩ : ∃ V, (((w2.setCell ⟨w.heap.size + 1, 0, none⟩ (.int .i64 t)).setCell ⟨w.heap.size + 1, 1, none⟩ (.int .i64 g0)).setCell ⟨w.heap.size + 1, 2, none⟩ (.int .i64 g1)).setCell ⟨w.heap.size + 1, 3, none⟩ (.int .i64 nx) = V := ⟨_, rfl⟩
  have hMV := hM2.head (c0 := .int .i64 t) (c1 := .int .i64 g0) (c2 := .int .i64 g1) (c3 := .int .i64 nx) hp (head_set5 hM2.bx)
  rw [hV] at hMV
  have hs2 : w.heap.size + 2 ≤ V.heap.size := by
    have h1 := hMV.kp.1.size
    have h2 := (Array.getElem?_eq_some_iff.1 hMV.bx).1
    omega
  have HCN := hid (count_calls p R.2 20 V hMV.rd)
  have HMV := hid hMV
  clear h2 k2 hM2 HC hW HM0 hMV ht hg0 hg1 hnx
  go_wp2_with fail
  refine HCN.out.mono ?_
  rintro e w3 ⟨rfl, h3, k3⟩
  have hM3 := HMV.out.call h3 k3 hp
  obtain ⟨N, hN⟩ : ∃ N : Nat, (R.2.upTo 20).1 = (N : Int) := ⟨(R.2.upTo 20).1.toNat, by have := (upTo_le R.2 (m := 20) (by decide)).1; omega⟩
  have hN200 : N ≤ 20 := by have := (upTo_le R.2 (m := 20) (by decide)).2; omega
  obtain ⟨F, hF⟩ : ∃ F, (R.2.upTo 20).2 = F := ⟨_, rfl⟩
  rw [hN]
  rw [hF] at hM3
  have HN := hid hN
  have HF := hid hF
  have HM3 := hid hM3
  clear h3 k3 HCN HMV hV x0 x1 x2 x3 x4 xf hN hF hM3
  go_wp2_with fail
  go_loopw [15] (fun i wr => ∃ (k : Nat) (fv : Value), k ≤ N ∧ i = .int .i64 k ∧ Hid (MidR w p 32 #[.int .i64 0, .int .i64 0, .int .i64 0, .int .i64 0, .slice none 0 0] #[.int .i64 t, .int .i64 g0, .int .i64 g1, .int .i64 nx, fv] (Rd.recs 11 F k).2 wr ∧ RowU (w.heap.size + 2) wr fv (Rd.recs 11 F k).1)) (fun i _ => N - (intOf i).toNat)
  case atStart =>
    have h00 : Rd.recs 11 F 0 = ([], F) := rfl
    refine ⟨0, .slice none 0 0, Nat.zero_le _, rfl, hid ?_⟩
    rw [h00]
    exact ⟨HM3.out, World.ownsRow_nil _ _ _ _⟩
  case round =>
    obtain ⟨k, fv, hk, rfl, HR⟩ := hrel
    have HLEN : Hid ((Rd.recs 11 F k).1.length = k) := recs_length 11 F k
    by_cases hlt : k < N
    · have hltz : (k : Int) < (N : Int) := by omega
      have hrow := HR.out.2
      obtain ⟨fa, fc, rfl, hfl, _, _⟩ := hrow.open
      have hM1 := HR.out.1
      obtain ⟨Z, hZ⟩ : ∃ Z, ((Rd.recs 11 F k).2).many 11 = Z := ⟨_, rfl⟩
      have HZ := hid hZ
      have HNX1 : Hid ((Rd.recs 11 F (k + 1)).1 = (Rd.recs 11 F k).1 ++ [Z.1]) := by
        show _ = _
        rw [recs_succ, hZ]
      have HNX2 : Hid ((Rd.recs 11 F (k + 1)).2 = Z.2) := by
        show _ = _
        rw [recs_succ, hZ]
      have r4 : ∀ w' : World, w'.heap[w.heap.size + 1]? = some (.cells #[.int .i64 t, .int .i64 g0, .int .i64 g1, .int .i64 nx, .slice fa (Rd.recs 11 F k).1.length fc] 32) → w'.cell? ⟨w.heap.size + 1, 4, none⟩ = some (.slice fa (Rd.recs 11 F k).1.length fc) := fun w' h => cell_of_row w' (w.heap.size + 1) 4 _ _ _ h
      have HMd : Hid (MidR w p 32 #[.int .i64 0, .int .i64 0, .int .i64 0, .int .i64 0, .slice none 0 0] #[.int .i64 t, .int .i64 g0, .int .i64 g1, .int .i64 nx, .slice fa (Rd.recs 11 F k).1.length fc] (Rd.recs 11 F k).2 wr.drew) := hM1.below (Below.refl _ _).drew
      have HWd : Hid (RowU (w.heap.size + 2) wr.drew (.slice fa (Rd.recs 11 F k).1.length fc) (Rd.recs 11 F k).1) := hrow
      clear hM1 hrow HR hZ
      go_wp2_with fail
      refine wp_region_noPanic ?_
      refine wp_region_till (S := fun w' : World => w'.heap[w.heap.size + 1]? = some (.cells #[.int .i64 t, .int .i64 g0, .int .i64 g1, .int .i64 nx, .slice fa (Rd.recs 11 F k).1.length fc] 32)) 7 (by kernel_rfl) HMd.out.bx (fun hHeld => ?_)
      obtain ⟨w0, hw0⟩ : ∃ x, wr.drew = x := ⟨_, rfl⟩
      rw [hw0] at hHeld HMd HWd ⊢
      have HM1 := HMd
      have HW1 := HWd
      clear HMd HWd hw0
      refine wpTill_take (i := 0) [0, 1, 5, 6, 7] (v := ?_) rfl (by kernel_rfl) (by kernel_rfl) (by kernel_rfl) (by kernel_rfl) (fun _ _ _ h => h) (Or.inl ⟨by kernel_rfl, ?_⟩) (by assumption) ?_
      rotate_left
      · intro w' hSw
        go_simp
        all_goals with_reducible rfl
      simp only [Act.put]
      refine wpTill_take (i := 1) [1, 5, 6, 7] (v := ?_) rfl (by kernel_rfl) (by kernel_rfl) (by kernel_rfl) (by kernel_rfl) (fun _ _ _ h => h) (Or.inl ⟨by kernel_rfl, ?_⟩) (by assumption) ?_
      rotate_left
      · intro w' hSw
        go_simp
        all_goals with_reducible rfl
      simp only [Act.put]
      refine wpTill_take (i := 2) [2, 3, 4, 5, 6, 7] (v := ?_) rfl (by kernel_rfl) (by kernel_rfl) (by kernel_rfl) (by kernel_rfl) (fun _ _ _ h => h) (Or.inl ⟨by kernel_rfl, ?_⟩) (by assumption) ?_
      rotate_left
      · intro w' hSw
        go_simp
        all_goals with_reducible rfl
      simp only [Act.put]
      refine wpTill_one (i := 3) (by kernel_rfl) rfl (fun K hK => ?_)
      go_simp
      refine (readUnit_calls p (Rd.recs 11 F k).2 w0 HM1.out.rd).mono ?_
      rintro e v1 ⟨rfl, hr5, hk5⟩
      have hM5 := HM1.out.call hr5 hk5 hp
      have hw5 := row_keepP HW1.out hk5 (by omega)
      rw [HZ.out] at hM5 ⊢
      have HM5 := hid hM5
      have HW5 := hid hw5
      have hS5 := hM5.bx
      clear hr5 hk5 hM5 hw5
      go_wp2_with fail
      refine hK.out _ _ (fun _ => hS5) ?_
      clear hK K
      refine wpTill_one (i := 4) (by kernel_rfl) rfl (fun K hK => ?_)
      go_simp
      obtain ⟨v2, hA⟩ : ∃ x, v1.alloc (.cells (unitC Z.1) 121) = x := ⟨_, rfl⟩
      have hb : Below v1.heap.size v1 v2 := by rw [← hA]; exact (Below.refl _ _).alloc (Nat.le_refl _) _
      have HM6 := hid (HM5.out.below hb)
      have HW6 := hid (row_below HW5.out hb)
      have HX6 : Hid (Recs v2 (some ⟨v1.heap.size, 0, none⟩) 11 [Z.1]) := by rw [← hA]; exact recs_oneU v1 Z.1 _
      have hS6 := HM6.out.bx
      have hs6 := hb.size
      have hs5 := (Array.getElem?_eq_some_iff.1 hS5).1
      rw [hA]
      refine hK.out _ _ (fun _ => hS6) ?_
      clear hb hA
      clear hK K
      refine wpTill_one (i := 5) (by kernel_rfl) rfl (fun K hK => ?_)
      refine step_rowsU rfl (.tmp 18) (.tmp 21) rfl (w.heap.size + 2) (.slice fa (Rd.recs 11 F k).1.length fc) (Rd.recs 11 F k).1 (by simp [Act.eval]) HW6.out (some ⟨v1.heap.size, 0, none⟩) 1 [Z.1] (by simp [Act.eval]) HX6.out (fun h => by cases h) (by rw [HLEN.out]; show k + 1 ≤ 100000; omega) (by omega) ?_
      intro v7 v3 hr7 hg7 _
      have hM7 := HM6.out.grown hg7 (fun q hq => (World.ownsRow.lt HW6.out q hq).1) hp
      have hr7' : RowU (w.heap.size + 2) v3 v7 (Rd.recs 11 F (k + 1)).1 := by rw [HNX1.out]; exact hr7
      obtain ⟨va7, vc7, rfl, _, _, _⟩ := hr7'.open
      have HM7 := hid hM7
      have HR7 := hid hr7'
      have hS7 := hM7.bx
      have y4 := cell_of_row v3 (w.heap.size + 1) 4 _ _ _ hS7
      have yf := fun j => frozen_of_row v3 (w.heap.size + 1) j _ _ hS7
      clear hr7 hg7 hM7 hr7'
      refine hK.out _ _ (fun _ => hS7) ?_
      clear hK K
      refine wpTill_take (i := 6) [6, 7] (v := ?_) rfl (by kernel_rfl) (by kernel_rfl) (by kernel_rfl) (by kernel_rfl) (fun _ _ _ h => h) (Or.inl ⟨by kernel_rfl, ?_⟩) (by assumption) ?_
      rotate_left
      · intro w' hSw
        go_simp
        all_goals with_reducible rfl
      simp only [Act.put]
      refine wpTill_one (i := 7) (by kernel_rfl) rfl (fun K hK => ?_)
      go_simp
      refine hK.out _ _ (fun h => absurd rfl h) ?_
      clear hK K
      refine wpTill_done (by kernel_rfl) ?_ _
      refine NoPanic.normal ?_
      have hM8 := HM7.out.set (v := .slice va7 (Rd.recs 11 F (k + 1)).1.length vc7) hp (five_set4 HM7.out.bx)
      have hr8 := row_set HR7.out (row_ne HR7.out hS7 (by decide)) 4 (.slice va7 (Rd.recs 11 F (k + 1)).1.length vc7)
      have HM8 := hid hM8
      have HR8 := hid hr8
      clear hM8 hr8 hS7 y4 yf
      go_wp2
      go_roundw
      case rel =>
        refine ⟨k + 1, .slice va7 (Rd.recs 11 F (k + 1)).1.length vc7, by omega, by go_num, hid ?_⟩
        rw [HNX2.out]
        exact ⟨HM8.out, HR8.out⟩
      case measure => simp [intOf]; omega
    · have hltz : ¬ (k : Int) < (N : Int) := by omega
      have hkN : k = N := by omega
      subst hkN
      have HNW : Hid (r.newer = (⟨t, g0, g1, nx, [], (Rd.recs 11 F k).1, []⟩, (Rd.recs 11 F k).2)) := by
        show _ = _
        unfold Rd.newer Rd.all
        rw [HRR.out, HN.out, HF.out, HT.out, HG0.out, HG1.out, HNX.out, Int.toNat_natCast]
      have hrow := HR.out.2
      obtain ⟨fa, fc, rfl, hfl, _, _⟩ := hrow.open
      have hM := HR.out.1
      obtain ⟨y0, y1, y2, y3, y4, _⟩ := five_cells hM.bx
      obtain ⟨q0, q1, q2, q3, q4, _⟩ := five_cells hM.re
      have qf := fun j => frozen_of_row wr w.heap.size j _ _ hM.re
      have hno := row_ne hrow hM.re (by decide)
      have hin : ∀ (c0 c1 c2 c3 c4 : Value), InW (((((wr.setCell ⟨w.heap.size, 0, none⟩ c0).setCell ⟨w.heap.size, 1, none⟩ c1).setCell ⟨w.heap.size, 2, none⟩ c2).setCell ⟨w.heap.size, 3, none⟩ c3).setCell ⟨w.heap.size, 4, none⟩ c4) ⟨t, g0, g1, nx, [], (Rd.recs 11 F k).1, []⟩ fa fc := fun c0 c1 c2 c3 c4 => by
        have h5 : RowU (w.heap.size + 2) (((((wr.setCell ⟨w.heap.size, 0, none⟩ c0).setCell ⟨w.heap.size, 1, none⟩ c1).setCell ⟨w.heap.size, 2, none⟩ c2).setCell ⟨w.heap.size, 3, none⟩ c3).setCell ⟨w.heap.size, 4, none⟩ c4) (.slice fa (Rd.recs 11 F k).1.length fc) (Rd.recs 11 F k).1 := row_set (row_set (row_set (row_set (row_set hrow hno 0 c0) hno 1 c1) hno 2 c2) hno 3 c3) hno 4 c4
        obtain ⟨fa', fc', he, hfl', hrec, _⟩ := h5.open
        cases he
        exact ⟨own_none h5, hfl, hrec, rfl, rfl⟩
      have HFE := hid (own_frsh (B := w.heap.size) hrow (by omega))
      have HIN := hid hin
      have HRD := hid hM.rd
      have HKP := hid hM.kp
      have hne : p ≠ w.heap.size := by omega
      clear HR hrow hM hin hno HM3 HLEN HT HG0 HG1 HNX HN HF
      go_wp2
      rw [HNW.out]
      refine bodyPost_ret (v := newerV t g0 g1 nx (.slice fa (Rd.recs 11 F k).1.length fc)) (by simp [results, Tryz.results59, go_sem, q0, q1, q2, q3, q4]) rfl ⟨fa, fc, rfl, HIN.out _ _ _ _ _, ?_, ?_, HFE.out⟩
      · exact rd_off (rd_off (rd_off (rd_off (rd_off HRD.out hne) hne) hne) hne) hne
      · exact keep_off (keep_off (keep_off (keep_off (keep_off HKP.out (Nat.le_refl _)) (Nat.le_refl _)) (Nat.le_refl _)) (Nat.le_refl _)) (Nat.le_refl _)
end Go.Proofs.YtcbalhicaipmlaaGreat
