/- Package newer of the program: a tick under way in memory, and what stores do to it. -/
import Derived.Test.YtmnddahkbmlibaaNsNwG
import Derived.Test.YtmnddahkbmlibaaNsRecA
import Derived.Test.YtmnddahkbmlibaaNsNwA
namespace Go.Proofs.Ytmnddahkbmlibaa
open Go.RowKit Go.Maps
def Who (w : World) (B : Nat) (f : Int → Option Value) : Prop := ∃ l, WM w B l ∧ ∀ id, getL id l = f id
def putF (f : Int → Option Value) (k : Int) (v : Value) : Int → Option Value := fun id => if id = k then some v else f id
theorem Who.made (w : World) : Who (w.alloc (.map #[] 0)) w.heap.size (fun _ => none) := ⟨[], WM.made w, fun _ => rfl⟩
theorem Who.other {w w' : World} {B : Nat} {f : Int → Option Value} (h : Who w B f) (hb : w'.heap[B]? = w.heap[B]?) : Who w' B f := by
  obtain ⟨l, h1, h2⟩ := h
  exact ⟨l, h1.other hb, h2⟩
theorem Who.lt {w : World} {B : Nat} {f : Int → Option Value} (h : Who w B f) : B < w.heap.size := by
  obtain ⟨l, h1, h2⟩ := h
  exact h1.lt
theorem Who.below {w w' : World} {B : Nat} {f : Int → Option Value} (h : Who w B f) (hb : Below w.heap.size w w') : Who w' B f := h.other (hb.block B h.lt)
theorem Who.isMap {w : World} {B : Nat} {f : Int → Option Value} (h : Who w B f) : ∃ es clock, w.heap[B]? = some (.map es clock) := by
  obtain ⟨l, h1, h2⟩ := h
  exact h1.isMap
theorem Who.look {w : World} {B : Nat} {f : Int → Option Value} (h : Who w B f) (k : Int) : (Instr.lookup 141 (.map (some B)) (inV k) false).run Try.prog w = .ok ((f k).getD (inV 0)) w := by
  obtain ⟨l, h1, h2⟩ := h
  rw [h1.look k, h2]
theorem Who.lookOk {w : World} {B : Nat} {f : Int → Option Value} (h : Who w B f) (k : Int) : (Instr.lookup 141 (.map (some B)) (inV k) true).run Try.prog w = .ok (.tuple #[(f k).getD (inV 0), .bool (f k).isSome]) w := by
  obtain ⟨l, h1, h2⟩ := h
  rw [h1.lookOk k, h2]
theorem Who.put {w : World} {B : Nat} {f : Int → Option Value} (h : Who w B f) (k : Int) (v : Value) :
    ∃ w', (Instr.mapUpdate 141 (.map (some B)) (inV k) v).run Try.prog w = .ok () w' ∧ Who w' B (putF f k v) ∧ w.grownBy w' (some B) := by
  obtain ⟨l, h1, h2⟩ := h
  obtain ⟨w', hr, hw, hg⟩ := h1.put k v
  refine ⟨w', hr, ⟨_, hw, fun id => ?_⟩, hg⟩
  rw [getL_put, h2]
  rfl
theorem Who.clear {w : World} {B : Nat} {f : Int → Option Value} (h : Who w B f) :
    ∃ w', (∀ ty, (Builtin.clear_ #[141] ty #[.map (some B)]).run Try.prog w = .ok (.tuple #[]) w') ∧ Who w' B (fun _ => none) ∧ w.grownBy w' (some B) := by
  obtain ⟨l, h1, h2⟩ := h
  obtain ⟨w', hr, hw, hg⟩ := h1.clear
  exact ⟨w', hr, ⟨_, hw, fun _ => rfl⟩, hg⟩
def whoK (es : List (List Int)) : Nat → Int → Option Value
  | 0, _ => none
  | k + 1, id => if id = fld (rec es k) 0 then some (inV k) else whoK es k id
theorem whoK_succ (es : List (List Int)) (k : Nat) : whoK es (k + 1) = putF (whoK es k) (fld (rec es k) 0) (inV k) := rfl
abbrev nwC (s : St) (uv : Value) (B : Nat) (old : Int) : Array Value := #[.int .i64 s.t, .int .i64 s.g0, .int .i64 s.g1, .int .i64 s.nx, uv, .map (some B), .int .i64 old]
structure GmN (base : Nat) (w : World) (p : Nat) (uv : Value) (B : Nat) (s : St) (f : Int → Option Value) (old : Int) : Prop where
  hp : w.heap[p]? = some (.cells (nwC s uv B old) 162)
  er : RowU base w uv s.es
  wh : Who w B f
  bp : base ≤ p
  bB : base ≤ B
section
variable {base : Nat} {w : World} {p : Nat} {uv : Value} {B : Nat} {s : St} {f : Int → Option Value} {old : Int}
theorem GmN.lt (h : GmN base w p uv B s f old) : p < w.heap.size := (Array.getElem?_eq_some_iff.1 h.hp).1
theorem GmN.pB (h : GmN base w p uv B s f old) : p ≠ B := by
  intro e
  obtain ⟨es, c, hm⟩ := h.wh.isMap
  rw [← e, h.hp] at hm
  cases hm
theorem GmN.below {w' : World} (h : GmN base w p uv B s f old) (hb : Below w.heap.size w w') : GmN base w' p uv B s f old :=
  ⟨(hb.block p h.lt).trans h.hp, row_below h.er hb, h.wh.below hb, h.bp, h.bB⟩
theorem GmN.cell (h : GmN base w p uv B s f old) (j : Nat) : w.cell? ⟨p, j, none⟩ = (nwC s uv B old)[j]? := cell_of_row w p j _ _ _ h.hp
theorem GmN.frozen (h : GmN base w p uv B s f old) (j : Nat) : w.frozen? ⟨p, j, none⟩ = false := frozen_of_row w p j _ _ h.hp
theorem GmN.pset (h : GmN base w p uv B s f old) (j : Nat) (v : Value) {s' : St} {uv' : Value} {old' : Int} (harr : (nwC s uv B old).setIfInBounds j v = nwC s' uv' B old')
    (er : RowU base w uv' s'.es) : GmN base (w.setCell ⟨p, j, none⟩ v) p uv' B s' f old' := by
  have ho : ∀ k, k ≠ p → (w.setCell ⟨p, j, none⟩ v).heap[k]? = w.heap[k]? := fun k hk => heap_setCell_other w ⟨p, j, none⟩ k v (fun e => hk e)
  refine ⟨?_, ?_, h.wh.other (ho B (fun e => h.pB e.symm)), h.bp, h.bB⟩
  · rw [← harr]
    exact heap_setCell_same w p j _ _ v h.hp
  · exact row_other er fun g hg => ho g fun e => row_ne er h.hp (by decide) (by rw [hg, e])
theorem gmN_rput {g n c : Nat} (h : GmN base w p (.slice (some ⟨g, 0, none⟩) n c) B s f old) {i j : Nat} (hi : i < s.es.length) (hj : j < 11) (v : Int) :
    GmN base (w.setCell ⟨g, i * 11 + j, none⟩ (.int .i64 v)) p (.slice (some ⟨g, 0, none⟩) n c) B { s with es := s.es.set i (updR 11 (rec s.es i) j v) } f old := by
  have hgb : (Value.slice (some ⟨g, 0, none⟩) n c).ownBlock = some g := rfl
  have ho : ∀ k, k ≠ g → (w.setCell ⟨g, i * 11 + j, none⟩ (.int .i64 v)).heap[k]? = w.heap[k]? := fun k hk => heap_setCell_other w ⟨g, i * 11 + j, none⟩ k _ (fun e => hk e)
  have hgp : p ≠ g := fun e => row_ne h.er h.hp (by decide) (by rw [hgb, e])
  have hrow : ∃ cur, w.heap[g]? = some (.cells cur 110 (0, 0)) := by
    rcases h.er.2 with ⟨h', _⟩ | ⟨g', cap', cur, h', _, hg, _⟩
    · cases h'
    · cases h'; exact ⟨cur, hg⟩
  obtain ⟨cur, hcur⟩ := hrow
  obtain ⟨me, mc, hm⟩ := h.wh.isMap
  exact ⟨(ho p hgp).trans h.hp, h.er.put hi hj v, h.wh.other (ho B (fun e => by rw [e, hcur] at hm; cases hm)), h.bp, h.bB⟩
theorem GmN.marked {w' : World} {f' : Int → Option Value} (h : GmN base w p uv B s f old) (hg : w.grownBy w' (some B)) (hw : Who w' B f') : GmN base w' p uv B s f' old := by
  obtain ⟨me, mc, hm⟩ := h.wh.isMap
  exact ⟨(hg.block p h.lt (fun e => h.pB (by simpa using e))).trans h.hp, World.ownsRow.kept h.er hg (Or.inr (row_ne_map h.er hm)), hw, h.bp, h.bB⟩
theorem gmN_tell {g n c : Nat} (h : GmN base w p (.slice (some ⟨g, 0, none⟩) n c) B s f old) {i : Nat} (hi : i < s.es.length) (d x y t : Int) :
    GmN base (tellW w g (i * 11) d x y t) p (.slice (some ⟨g, 0, none⟩) n c) B { s with es := s.es.set i (tellR (rec s.es i) d x y t) } f old := by
  have h1 := gmN_rput h hi (j := 6) (by omega) d
  have h2 := gmN_rput h1 (i := i) (by simpa using hi) (j := 7) (by omega) x
  have h3 := gmN_rput h2 (i := i) (by simpa using hi) (j := 8) (by omega) y
  have h4 := gmN_rput h3 (i := i) (by simpa using hi) (j := 9) (by omega) t
  simp only [set_set] at h4
  rw [rec_set_same (by simpa using hi), rec_set_same (by simpa using hi), rec_set_same (by simpa using hi)] at h4
  exact h4
theorem turnW_tell (w : World) (g m : Nat) (d : Int) : turnW w g m d = tellW w g m d 0 0 0 := rfl
end
end Go.Proofs.Ytmnddahkbmlibaa
namespace Go.Proofs.Ytmnddahkbmlibaa
open Go.RowKit Go.Maps
set_option maxRecDepth 100000 in
set_option maxHeartbeats 4000000 in
theorem tellN_calls (base p B : Nat) (uv : Value) (s : St) (f : Int → Option Value) (old : Int) (w : World) (hlen : s.es.length ≤ 1000) (h : GmN base w p uv B s f old) (hbw : base ≤ w.heap.size) :
    Calls Try.prog 154 #[.pointer (some ⟨p, 0, none⟩)] w fun e w' => e = .returned (.tuple #[]) ∧ GmN base w' p uv B s (whoK s.es s.es.length) old ∧ Below base w w' := by
  obtain ⟨w1, hcl, hw1, hg1⟩ := h.wh.clear
  have HG0 : Hid (GmN base w1 p uv B s (whoK s.es 0) old) := h.marked hg1 hw1
  have HB0 : Hid (Below base w w1) := below_grown (Below.refl _ _) hg1 h.bB hbw
  have c5 := h.cell 5
  obtain ⟨ea, c, rfl, hcc, _, _⟩ := h.er.open
  have d4 := HG0.out.cell 4
  have HBB := hid h.bB
  clear hw1 hg1 h hcc
  go_enter Try.func154, Try.ntmps154
  go_wp2
  clear c5 d4 hcl
  go_loopw [14] (fun i wr => ∃ k : Nat, k ≤ s.es.length ∧ i = .int .i64 k ∧ Hid (GmN base wr p (.slice ea s.es.length c) B s (whoK s.es k) old) ∧ Hid (Below base w wr)) (fun i _ => s.es.length - (intOf i).toNat)
  case atStart => exact ⟨0, Nat.zero_le _, rfl, HG0, HB0⟩
  case round =>
    clear HG0 HB0
    obtain ⟨k, hk, rfl, HG, HB⟩ := hrel
    by_cases hlt : k < s.es.length
    · have hltz : (k : Int) < (s.es.length : Int) := by omega
      obtain ⟨ea', c', hev, _, _, hE0⟩ := HG.out.er.open
      cases hev
      obtain ⟨g, rfl, hbg, hgl⟩ := hE0 (by omega)
      obtain ⟨hc, _⟩ := HG.out.er.cells hlt
      have l0 : wr.cell? ⟨g, k * 11, none⟩ = some (.int .i64 (fld (rec s.es k) 0)) := hc 0 (by omega)
      have l1 := hc 1 (by omega)
      have l2 := hc 2 (by omega)
      have l3 := hc 3 (by omega)
      have l4 := hc 4 (by omega)
      have l5 := hc 5 (by omega)
      have l6 := hc 6 (by omega)
      have l7 := hc 7 (by omega)
      have l8 := hc 8 (by omega)
      have l9 := hc 9 (by omega)
      have l10 := hc 10 (by omega)
      have HT := hid (whoK_succ s.es k)
      clear hc hE0
      generalize rec s.es k = y at l0 l1 l2 l3 l4 l5 l6 l7 l8 l9 l10 HT
      go_wp2_with fail
      have hbw1 : Below wr.heap.size wr (wr.alloc (.cells (unitC y) 110)) := (Below.refl _ wr).alloc (Nat.le_refl _) _
      have HG1 := hid (HG.out.below hbw1)
      have HB1 : Hid (Below base w (wr.alloc (.cells (unitC y) 110))) := HB.out.trans (hbw1.mono (Nat.le_trans hbw HB.out.size))
      obtain ⟨w3, hrun, hw3, hg3⟩ := Who.put (w := (wr.alloc (.cells (unitC y) 110)).drew) HG1.out.wh (fld y 0) (inV k)
      have HW3 := hid hw3
      have HG3 := hid (drew_grown hg3)
      have c5 := HG1.out.cell 5
      have y0 : (wr.alloc (.cells (unitC y) 110)).cell? ⟨wr.heap.size, 0, none⟩ = some (.int .i64 (fld y 0)) := by simp [go_sem]
      clear hw3 hg3 l0 l1 l2 l3 l4 l5 l6 l7 l8 l9 l10 hbw1
      generalize wr.alloc (.cells (unitC y) 110) = W1 at hrun HG1 HB1 HG3 c5 y0 ⊢
      go_region
      all_goals
        go_wp2
        go_roundw
        case rel =>
          refine ⟨k + 1, by omega, by go_num, ?_, ?_⟩
          · show GmN _ _ _ _ _ _ _ _
            rw [HT.out]
            exact HG1.out.marked HG3.out HW3.out
          · exact below_grown HB1.out HG3.out HBB.out (Nat.le_trans hbw HB1.out.size)
        case measure => simp [intOf]; omega
    · have hltz : ¬ (k : Int) < (s.es.length : Int) := by omega
      have hke : k = s.es.length := by omega
      subst hke
      go_wp2
      go_end0
      exact ⟨rfl, HG.out, HB.out⟩
end Go.Proofs.Ytmnddahkbmlibaa
namespace Go.Proofs.Ytmnddahkbmlibaa
open Go.RowKit
set_option maxHeartbeats 2000000 in
theorem indexFuncU_calls (g : Nat) (lb : Array Value) (eg : ∀ args w, (callFunc g args).run Try.prog w = .ok (.enter g args) w) (p : List Int → Bool) (es : List (List Int)) (ea : Option Addr) (c : Nat) (w : World)
    (hn : es.length ≤ 1000) (hrow : Recs w ea 11 es)
    (hp : ∀ (W : World) (u : List Int), Below w.heap.size w W → Calls Try.prog g (#[unitV u] ++ lb) W fun e w' => e = .returned (.bool (p u)) ∧ Below w.heap.size w w') :
    Calls Try.prog 167 #[.slice ea es.length c, .func (.func g) #[] lb] w fun e w' => e = .returned (.int .i64 (idxZ p es)) ∧ Below w.heap.size w w' := by
  have HR : Hid (Recs w ea 11 es) := hrow
  clear hrow
  go_enter Try.func167, Try.ntmps167
  go_wp2
  go_loopg [5, 8] es.length (fun gg _ s8 wr => ∃ kk : Nat, kk ≤ es.length ∧ es.length - kk ≤ gg ∧ s8 = .int .i64 kk ∧ Hid (Below w.heap.size w wr) ∧ Hid (∀ j, j < kk → p (rec es j) = false))
  case atStart => exact ⟨0, Nat.zero_le _, by omega, rfl, Below.refl _ w, fun j hj => absurd hj (Nat.not_lt_zero _)⟩
  case round =>
    obtain ⟨kk, hkk, hg, rfl, BW, A⟩ := hrel
    by_cases hlt : kk < es.length
    · have hltz : (kk : Int) < (es.length : Int) := by omega
      obtain ⟨b, o, rfl, hc⟩ := (HR.out.below BW.out).at hlt
      have l0 : wr.cell? ⟨b, o + kk * 11, none⟩ = some (.int .i64 (fld (rec es kk) 0)) := hc 0 (by omega)
      have l1 := hc 1 (by omega)
      have l2 := hc 2 (by omega)
      have l3 := hc 3 (by omega)
      have l4 := hc 4 (by omega)
      have l5 := hc 5 (by omega)
      have l6 := hc 6 (by omega)
      have l7 := hc 7 (by omega)
      have l8 := hc 8 (by omega)
      have l9 := hc 9 (by omega)
      have l10 := hc 10 (by omega)
      have hcall := hp wr (rec es kk) BW.out
      clear hp HR hc
      generalize hy : rec es kk = y at l0 l1 l2 l3 l4 l5 l6 l7 l8 l9 l10 hcall
      have B : Hid (rec es kk = y) := hy
      clear hy
      cases hq : p y with
      | true =>
        rw [hq] at hcall
        have HC := hid hcall
        clear hcall
        go_wp2_with fail
        refine HC.out.mono ?_
        clear HC
        rintro e w' ⟨rfl, hb0⟩
        have hb' := hid hb0
        clear hb0 l0 l1 l2 l3 l4 l5 l6 l7 l8 l9 l10
        go_wp2
        go_ret
        exact ⟨retI (idxZ_some hlt A.out (by rw [B.out]; exact hq)).symm, hb'.out⟩
      | false =>
        rw [hq] at hcall
        have HC := hid hcall
        clear hcall
        go_wp2_with fail
        refine HC.out.mono ?_
        clear HC
        rintro e w' ⟨rfl, hb0⟩
        have hb' := hid hb0
        clear hb0 l0 l1 l2 l3 l4 l5 l6 l7 l8 l9 l10
        go_wp2
        go_roundg (es.length - (kk + 1))
        case measure => omega
        case rel =>
          refine ⟨kk + 1, by omega, by omega, by go_num, hb', (show Hid _ from fun j hj => ?_)⟩
          by_cases e : j = kk
          · rw [e, B.out]; exact hq
          · exact A.out j (by omega)
    · have hltz : ¬ (kk : Int) < (es.length : Int) := by omega
      clear hp
      go_wp2
      go_ret
      exact ⟨retI (idxZ_none (fun i hi => A.out i (by omega))).symm, BW.out⟩
abbrev newerV (t g0 g1 nx : Int) (uv : Value) : Value := .agg #[.int .i64 t, .int .i64 g0, .int .i64 g1, .int .i64 nx, uv]
abbrev newerC (t g0 g1 nx : Int) (uv : Value) : Array Value := #[.int .i64 t, .int .i64 g0, .int .i64 g1, .int .i64 nx, uv]
def stateN (t g0 g1 nx : Int) (ne : Nat) : Nat :=
  if inZ t 0 60 = true ∧ inZ nx 1 2001 = true then if inZ g0 0 1000 = true then if inZ g1 0 1000 = true then if 20 < ne then 2 else 0 else 1 else 1 else 1
set_option maxHeartbeats 4000000 in
theorem checkStateN_calls (t g0 g1 nx : Int) (ea : Option Addr) (ne ec : Nat) (w : World) :
    Calls Try.prog 112 #[newerV t g0 g1 nx (.slice ea ne ec)] w fun e w' => e = .returned (errV (stateN t g0 g1 nx ne)) ∧ Below w.heap.size w w' := by
  have i0 := gold_at0
  have i1 := gold_at1
  go_enter Try.func112, Try.ntmps112
  go_wp2_with fail
  refine (withinN_calls _ _ _ _).mono ?_
  rintro e w' ⟨rfl, rfl⟩
  cases h1 : inZ t 0 60
  · go_wp2
    go_ret
    exact ⟨retE (c := 1) (by simp [stateN, h1]) rfl, by go_grown⟩
  go_wp2_with fail
  refine (withinN_calls _ _ _ _).mono ?_
  rintro e w' ⟨rfl, rfl⟩
  cases h2 : inZ nx 1 2001
  · go_wp2
    go_ret
    exact ⟨retE (c := 1) (by simp [stateN, h2]) rfl, by go_grown⟩
  go_wp2_with fail
  refine wp_loop_rounds 3 ?_
  rw [rounds_succ]
  go_wp2_with fail
  refine (withinN_calls _ _ _ _).mono ?_
  rintro e w' ⟨rfl, rfl⟩
  cases h3 : inZ g0 0 1000
  · go_wp2
    go_ret
    exact ⟨retE (c := 1) (by simp [stateN, h3]) rfl, by go_grown⟩
  go_wp2_with fail
  rw [rounds_succ]
  go_wp2_with fail
  refine (withinN_calls _ _ _ _).mono ?_
  rintro e w' ⟨rfl, rfl⟩
  cases h4 : inZ g1 0 1000
  · go_wp2
    go_ret
    exact ⟨retE (c := 1) (by simp [stateN, h4]) rfl, by go_grown⟩
  go_wp2_with fail
  rw [rounds_succ]
  by_cases h5 : 20 < ne
  · have h5' : (20 : Int) < (ne : Int) := by omega
    go_wp2
    go_ret
    exact ⟨retE (c := 2) (by simp [stateN, h1, h2, h3, h4, h5]) rfl, by go_grown⟩
  have h5' : ¬ (20 : Int) < (ne : Int) := by omega
  go_wp2
  go_ret
  exact ⟨retE (c := 0) (by simp [stateN, h1, h2, h3, h4, h5]) rfl, by go_grown⟩
end Go.Proofs.Ytmnddahkbmlibaa
