/- The reference's game: a tick's end: all go. -/
import Derived.Test.YtgiieepfhohmhaaRefMA
import Derived.Test.YtgiieepfhohmhaaRefEA
namespace Go.Proofs.Ytgiieepfhohmhaa
open Go.RowKit Go.Maps

def hitR (nw : Bool) (es : List (List Int)) (old : List Int) (x y : Int) (k j : Nat) : Bool :=
  (((decide ((j : Int) ≠ (k : Int)) && (wishV nw es (rec es j)).2.2) && isB old (fld (rec es j) 0)) && ((wishV nw es (rec es j)).1 == x)) && ((wishV nw es (rec es j)).2.1 == y)
def aloneR (nw : Bool) (es : List (List Int)) (old : List Int) (x y : Int) (k m : Nat) : Bool := (List.range m).all fun j => !hitR nw es old x y k j
def leaveR (nw : Bool) (es : List (List Int)) (old : List Int) (u : List Int) : Bool := !(wishV nw es u).2.2 || (standsB (wishV nw es u).1 (wishV nw es u).2.1 es || !isB old (fld u 0))
def moveF (nw : Bool) (es : List (List Int)) (old : List Int) (k : Nat) : List Int :=
  if leaveR nw es old (rec es k) = true then rec es k
  else if aloneR nw es old (wishV nw es (rec es k)).1 (wishV nw es (rec es k)).2.1 k es.length = true then updR 11 (updR 11 (rec es k) 3 (wishV nw es (rec es k)).1) 4 (wishV nw es (rec es k)).2.1 else rec es k
def moveR (nw : Bool) (es : List (List Int)) (old : List Int) : List (List Int) := idxK (moveF nw es old) es es.length
def arriveF (old : List Int) (u : List Int) : List Int := if (((isB old (fld u 0) && (fld u 6 == 1)) && (fld u 3 == fld u 7)) && (fld u 4 == fld u 8)) = true then tellR u 0 0 0 0 else u
def arriveR (old : List Int) (es : List (List Int)) : List (List Int) := es.map (arriveF old)

theorem aloneR_zero (nw : Bool) (es : List (List Int)) (old : List Int) (x y : Int) (k : Nat) : aloneR nw es old x y k 0 = true := rfl
theorem aloneR_succ (nw : Bool) (es : List (List Int)) (old : List Int) (x y : Int) (k m : Nat) : aloneR nw es old x y k (m + 1) = (aloneR nw es old x y k m && !hitR nw es old x y k m) := by
  unfold aloneR
  rw [List.range_succ, List.all_append]
  simp

theorem Recs.keep {W w : World} {ob : Option Nat} {a : Option Addr} {n : Nat} {rs : List (List Int)} (h : Recs W a n rs) (hk : Keep W ob w) (ha : ∀ b o, a = some ⟨b, o, none⟩ → b < W.heap.size ∧ ob ≠ some b) : Recs w a n rs := by
  rcases h with h | ⟨b, o, e, hc⟩
  · exact Or.inl h
  · obtain ⟨h1, h2⟩ := ha b o e
    exact Or.inr ⟨b, o, e, fun i hi j hj => (hk.cell (p := ⟨b, _, none⟩) h1 h2).trans (hc i hi j hj)⟩
theorem Nums.keep {W w : World} {ob : Option Nat} {a : Option Addr} {rs : List Int} (h : Nums W a rs) (hk : Keep W ob w) (ha : ∀ b o, a = some ⟨b, o, none⟩ → b < W.heap.size ∧ ob ≠ some b) : Nums w a rs := by
  rcases h with h | ⟨b, o, e, hc⟩
  · exact Or.inl h
  · obtain ⟨h1, h2⟩ := ha b o e
    exact Or.inr ⟨b, o, e, fun i hi => (hk.cell (p := ⟨b, _, none⟩) h1 h2).trans (hc i hi)⟩
/- What is only read while all go: the copy of the game, and who was there. -/
structure EX (w : World) (q B : Nat) (nw : Bool) (ua : Option Addr) (uc : Nat) (es : List (List Int)) (oa : Option Addr) (oc : Nat) (old : List Int) : Prop where
  rg : RG w q nw ua uc es
  bx : w.cell? ⟨B, 0, none⟩ = some (.slice oa old.length oc)
  nu : Nums w oa old
theorem EX.below {w w' : World} {q B : Nat} {nw : Bool} {ua : Option Addr} {uc : Nat} {es : List (List Int)} {oa : Option Addr} {oc : Nat} {old : List Int} (h : EX w q B nw ua uc es oa oc old) (hb : Below w.heap.size w w') : EX w' q B nw ua uc es oa oc old :=
  ⟨h.rg.below hb, (hb.cell (p := ⟨B, 0, none⟩) (World.block_lt_of_cell? w _ h.bx)).trans h.bx, h.nu.below hb⟩

theorem RowU.nil {b n c : Nat} {w : World} {a : Option Addr} {us : List (List Int)} (h : RowU b w (.slice a n c) us) : a = none → c = 0 := by
  rcases h.2 with ⟨h', _⟩ | ⟨g', cap', cur, h', _⟩
  · intro _; cases h'; rfl
  · intro e; cases h'; cases e

set_option maxRecDepth 100000 in
set_option maxHeartbeats 8000000 in
theorem ends_calls (base p : Nat) (nw : Bool) (s : St) (uv fv bv : Value) (old : List Int) (oa : Option Addr) (oc : Nat) (w : World) (hG : Gr base w p uv fv bv nw s) (hbs : base ≤ w.heap.size) (hn : s.es.length ≤ 20) (hol : old.length ≤ 1000) (hon : Nums w oa old)
    (hoa : ∀ b o, oa = some ⟨b, o, none⟩ → b < w.heap.size ∧ Apart w p b) (hok : ∀ i, i < s.es.length → WishOk s.es (rec s.es i)) (R : St)
    (hT : ∀ X, Gr base X p uv fv bv nw { s with es := arriveR old (moveR nw s.es old) } → base ≤ X.heap.size → X.cell? ⟨w.heap.size, 0, none⟩ = some (.slice oa old.length oc) → Nums X oa old → (∀ b o, oa = some ⟨b, o, none⟩ → b < X.heap.size ∧ Apart X p b) → Apart X p w.heap.size →
      Calls Try.prog 143 #[.pointer (some ⟨p, 0, none⟩), .func (.func 141) #[] #[.pointer (some ⟨w.heap.size, 0, none⟩)]] X fun e w' => e = .returned (.tuple #[]) ∧ GrE base w' p nw R ∧ Below base X w') :
    Calls Try.prog 92 #[.pointer (some ⟨p, 0, none⟩), .slice oa old.length oc] w fun e w' => e = .returned (.tuple #[]) ∧ GrE base w' p nw R ∧ Below base w w' := by
  obtain ⟨ea, c, rfl, hcap, hre, hge⟩ := hG.er.open
  obtain ⟨fa, fc, rfl, _, _, _⟩ := hG.fr.open
  obtain ⟨ba, bc, rfl, _, _, _⟩ := hG.br.open
  have c0 : w.cell? ⟨p, 0, none⟩ = some (.bool nw) := hG.cell 0
  have c1 : w.cell? ⟨p, 1, none⟩ = some (.int .i64 s.t) := hG.cell 1
  have c2 : w.cell? ⟨p, 2, none⟩ = some (.int .i64 s.g0) := hG.cell 2
  have c3 : w.cell? ⟨p, 3, none⟩ = some (.int .i64 s.g1) := hG.cell 3
  have c4 : w.cell? ⟨p, 4, none⟩ = some (.int .i64 s.nx) := hG.cell 4
  have c5 : w.cell? ⟨p, 5, none⟩ = some (.slice fa s.free.length fc) := hG.cell 5
  have c6 : w.cell? ⟨p, 6, none⟩ = some (.slice ea s.es.length c) := hG.cell 6
  have c7 : w.cell? ⟨p, 7, none⟩ = some (.slice ba s.born.length bc) := hG.cell 7
  have hlt := hG.lt
  have hbp := hG.bp
  have HG := hid hG
  have HRE := hid hre
  have HGE := hid hge
  have HON := hid hon
  have HOA := hid hoa
  have HOK := hid hok
  obtain ⟨W2, hW2⟩ : ∃ W2, (w.alloc (.cells #[.slice oa old.length oc] 57)).alloc (.cells (refC nw s (.slice fa s.free.length fc) (.slice ea s.es.length c) (.slice ba s.born.length bc)) 147) = W2 := ⟨_, rfl⟩
  have hb2 : Below w.heap.size w W2 := by
    rw [← hW2]
    exact ((Below.refl _ w).alloc (Nat.le_refl _) _).alloc (by simp [go_sem]) _
  have hs2 : W2.heap.size = w.heap.size + 2 := by rw [← hW2]; simp [go_sem]
  have hq2 : W2.heap[w.heap.size + 1]? = some (.cells (refC nw s (.slice fa s.free.length fc) (.slice ea s.es.length c) (.slice ba s.born.length bc)) 147) := by
    rw [← hW2]
    have e : w.heap.size + 1 = (w.alloc (.cells #[.slice oa old.length oc] 57)).heap.size := by simp [go_sem]
    rw [e]
    exact heap_alloc_new _ _
  have hB2 : W2.heap[w.heap.size]? = some (.cells #[.slice oa old.length oc] 57) := by
    rw [← hW2, heap_alloc_old _ _ (by simp [go_sem])]
    exact heap_alloc_new w _
  have hnl := hG.er.nil
  have e6 : W2.cell? ⟨p, 6, none⟩ = some (.slice ea s.es.length c) := (hb2.cell (p := ⟨p, 6, none⟩) hlt).trans (hG.cell 6)
  have HRE2 := hid (hre.below hb2)
  have HB2 := hid hb2
  have HS2 := hid hs2
  have HQ2 := hid hq2
  have HBB2 := hid hB2
  have HNL := hid hnl
  have HTO := hid hT
  clear hG hre hge hon hoa hok hT hb2 hs2 hq2 hB2 hnl
  go_enter Try.func92, Try.ntmps92
  go_wp2_with (at_builtin; refine wp_rowsU W2 rfl (.const (.slice none 0 0)) (.tmp 27) (by rfl) W2.heap.size (.slice none 0 0) [] (by rfl) (World.ownsRow_nil _ _ _ _) ea c s.es (by rfl) HRE2.out HNL.out (by show 0 + s.es.length ≤ 100000; omega) (Nat.le_refl _) ?_
               intro v5 w5 hr5 hg5 hl5
               have hr5' := hr5
               obtain ⟨va, vc, rfl, _, _, _⟩ := hr5'.open
               have hb5 : Below W2.heap.size W2 w5 := (Below.refl _ W2).grown hg5 (Nat.le_refl _) (fun k hk => by cases hk)
               have hq5 := (hb5.block (w.heap.size + 1) (by rw [HS2.out]; omega)).trans HQ2.out
               have z6 : w5.cell? ⟨w.heap.size + 1, 6, none⟩ = some (.slice ea s.es.length c) := cell_of_row w5 _ 6 _ _ _ hq5
               have zf : w5.frozen? ⟨w.heap.size + 1, 6, none⟩ = false := frozen_of_row w5 _ 6 _ _ hq5
               have HB5 := hid hb5
               have HR5 := hid hr5
               have HQ5 := hid hq5
               clear hr5 hg5 hl5 hr5' hb5 hq5)
  clear hW2 e6 c0 c1 c2 c3 c4 c5 c6 c7
  obtain ⟨W, hW⟩ : ∃ W, w5.setCell ⟨w.heap.size + 1, 6, none⟩ (.slice va s.es.length vc) = W := ⟨_, rfl⟩
  rw [hW]
  have hsW : w.heap.size + 2 ≤ W.heap.size := by rw [← hW]; have := HB5.out.size; rw [HS2.out] at this; simpa [go_sem] using this
  have hbW : Below w.heap.size w W := by
    rw [← hW]
    exact (HB2.out.trans (HB5.out.mono (by rw [HS2.out]; omega))).setCell (p := ⟨w.heap.size + 1, 6, none⟩) (by show w.heap.size ≤ w.heap.size + 1; omega) _
  have hGW := HG.out.below hbW
  have hEX : EX W (w.heap.size + 1) w.heap.size nw va vc s.es oa oc old := by
    have hqW : W.heap[w.heap.size + 1]? = some (.cells (refC nw s (.slice fa s.free.length fc) (.slice va s.es.length vc) (.slice ba s.born.length bc)) 147) := by
      rw [← hW]
      exact heap_setCell_same w5 (w.heap.size + 1) 6 _ _ _ HQ5.out
    have hrW : RowU W2.heap.size W (.slice va s.es.length vc) s.es := by
      rw [← hW]
      refine row_other HR5.out fun g hg => heap_setCell_other w5 ⟨w.heap.size + 1, 6, none⟩ g _ (fun e => ?_)
      have h1 := (World.ownsRow.lt HR5.out g hg).1
      rw [HS2.out] at h1
      have e' : g = w.heap.size + 1 := e
      omega
    obtain ⟨va', vc', e', _, hrc, _⟩ := hrW.open
    cases e'
    refine ⟨⟨cell_of_row W _ 0 _ _ _ hqW, cell_of_row W _ 6 _ _ _ hqW, hrc, by omega⟩, ?_, HON.out.below hbW⟩
    have hbx : W.heap[w.heap.size]? = some (.cells #[.slice oa old.length oc] 57) := by
      rw [← hW, heap_setCell_other w5 ⟨w.heap.size + 1, 6, none⟩ w.heap.size _ (fun e => by have e' : w.heap.size = w.heap.size + 1 := e; omega), HB5.out.block _ (by rw [HS2.out]; omega)]
      exact HBB2.out
    exact cell_of_row W _ 0 _ _ _ hbx
  have hva : ∀ b o, va = some ⟨b, o, none⟩ → b < W.heap.size ∧ (Value.slice ea s.es.length c).ownBlock ≠ some b := by
    intro b o e
    subst e
    have hb' : (Value.slice (some ⟨b, o, none⟩) s.es.length vc).ownBlock = some b := rfl
    have h1 := World.ownsRow.lt HR5.out b hb'
    refine ⟨by rw [← hW]; simpa [go_sem] using h1.2, fun e2 => ?_⟩
    have h2 := (World.ownsRow.lt HG.out.er b e2).2
    have h3 := h1.1
    rw [HS2.out] at h3
    omega
  have HKX : Hid (∀ wr, Keep W (Value.slice ea s.es.length c).ownBlock wr → EX wr (w.heap.size + 1) w.heap.size nw va vc s.es oa oc old) := fun wr hk => by
    have hne : ∀ k, w.heap.size ≤ k → (Value.slice ea s.es.length c).ownBlock ≠ some k := fun k hk e => by
      have := (World.ownsRow.lt HG.out.er k e).2
      omega
    refine ⟨⟨(hk.cell (p := ⟨w.heap.size + 1, 0, none⟩) (by show w.heap.size + 1 < _; omega) (hne _ (by show w.heap.size ≤ w.heap.size + 1; omega))).trans hEX.rg.n0, (hk.cell (p := ⟨w.heap.size + 1, 6, none⟩) (by show w.heap.size + 1 < _; omega) (hne _ (by show w.heap.size ≤ w.heap.size + 1; omega))).trans hEX.rg.u6, hEX.rg.rs.keep hk hva, hEX.rg.len⟩, (hk.cell (p := ⟨w.heap.size, 0, none⟩) (by show w.heap.size < _; omega) (hne _ (Nat.le_refl _))).trans hEX.bx, hEX.nu.keep hk fun b o e => ?_⟩
    obtain ⟨h1, h2⟩ := HOA.out b o e
    exact ⟨Nat.lt_of_lt_of_le h1 (by omega), (HG.out.apart.1 h2).2.1⟩
  have HGW := hid hGW
  have HBW := hid hbW
  clear HR5 HQ5 HB5 HB2 HS2 HQ2 HBB2 HRE2 HNL hEX hva hGW hbW hW z6 zf
  go_loopw [6] (fun i wr => ∃ k : Nat, k ≤ s.es.length ∧ i = .int .i64 k ∧ Hid (Gr base wr p (.slice ea s.es.length c) (.slice fa s.free.length fc) (.slice ba s.born.length bc) nw { s with es := idxK (moveF nw s.es old) s.es k }) ∧ Hid (Keep W (Value.slice ea s.es.length c).ownBlock wr)) (fun i _ => s.es.length - (intOf i).toNat)
  case atStart => exact ⟨0, by omega, rfl, by rw [idxK_zero]; exact HGW, Keep.refl _ _⟩
  case round =>
    obtain ⟨k, hk, rfl, HGr, HKr⟩ := hrel
    have HEr := hid (HKX.out wr HKr.out)
    have u6 := HEr.out.rg.u6
    by_cases hkl : k < s.es.length
    · have hkz : (k : Int) < (s.es.length : Int) := by omega
      obtain ⟨b, o, rfl, hc⟩ := HEr.out.rg.rs.at hkl
      have HU : Hid (∀ X, Below wr.heap.size wr X → ∀ j, j < 11 → X.cell? ⟨b, o + k * 11 + j, none⟩ = some (.int .i64 (fld (rec s.es k) j))) := fun X hb j hj => by
        obtain ⟨b', o', e, hc'⟩ := (HEr.out.below hb).rg.rs.at hkl
        cases e
        exact hc' j hj
      have HWC := hid (refWish_calls (w.heap.size + 1) nw (some ⟨b, o, none⟩) vc s.es (rec s.es k) wr HEr.out.rg (HOK.out k hkl))
      have HMF : Hid (moveF nw s.es old k = if leaveR nw s.es old (rec s.es k) = true then rec s.es k
  else if aloneR nw s.es old (wishV nw s.es (rec s.es k)).1 (wishV nw s.es (rec s.es k)).2.1 k s.es.length = true then updR 11 (updR 11 (rec s.es k) 3 (wishV nw s.es (rec s.es k)).1) 4 (wishV nw s.es (rec s.es k)).2.1 else rec s.es k) := rfl
      have HLV : Hid (leaveR nw s.es old (rec s.es k) = (!(wishV nw s.es (rec s.es k)).2.2 || (standsB (wishV nw s.es (rec s.es k)).1 (wishV nw s.es (rec s.es k)).2.1 s.es || !isB old (fld (rec s.es k) 0)))) := rfl
      have HSA : Hid (moveF nw s.es old k = rec s.es k → Gr base wr p (.slice ea s.es.length c) (.slice fa s.free.length fc) (.slice ba s.born.length bc) nw { s with es := idxK (moveF nw s.es old) s.es (k + 1) }) := fun h => by
        rw [idxK_same _ _ h]
        exact HGr.out
      have x0 : wr.cell? ⟨b, o + k * 11, none⟩ = some (.int .i64 (fld (rec s.es k) 0)) := hc 0 (by omega)
      have x1 := hc 1 (by omega)
      have x2 := hc 2 (by omega)
      have x3 := hc 3 (by omega)
      have x4 := hc 4 (by omega)
      have x5 := hc 5 (by omega)
      have x6 := hc 6 (by omega)
      have x7 := hc 7 (by omega)
      have x8 := hc 8 (by omega)
      have x9 := hc 9 (by omega)
      have x10 := hc 10 (by omega)
      clear hc
      generalize hru : rec s.es k = u at x0 x1 x2 x3 x4 x5 x6 x7 x8 x9 x10 HWC HMF HLV HSA HU
      have HRU := hid hru
      clear hru
      generalize wishV nw s.es u = V at HWC HMF HLV
      obtain ⟨vx, vy, vw⟩ := V
      go_wp2_with fail
      refine HWC.out.mono ?_
      clear HWC x0 x1 x2 x3 x4 x5 x6 x7 x8 x9 x10 u6
      rintro e w6 ⟨rfl, hb6⟩
      have HB6 := hid hb6
      have HE6 := hid (HEr.out.below hb6)
      clear hb6
      have hb6s := HB6.out.size
      go_wp2_with fail
      refine (stands_calls (w.heap.size + 1) vc (some ⟨b, o, none⟩) s.es vx vy w6 (by omega) HE6.out.rg.u6 HE6.out.rg.rs).mono ?_
      rintro e w7 ⟨rfl, rfl⟩
      have u6 := HE6.out.rg.u6
      have y0 : w7.cell? ⟨b, o + k * 11, none⟩ = some (.int .i64 (fld u 0)) := HU.out w7 HB6.out 0 (by omega)
      go_wp2_with fail
      refine (is_calls w.heap.size oc oa old (fld u 0) w7 hol HE6.out.bx HE6.out.nu).mono ?_
      rintro e w8 ⟨rfl, rfl⟩
      have HK8 := hid (HKr.out.below HB6.out)
      clear y0
      cases hlv : leaveR nw s.es old u with
      | true =>
        rw [hlv] at HMF
        have HG8 : Hid (Gr base w8 p (.slice ea s.es.length c) (.slice fa s.free.length fc) (.slice ba s.born.length bc) nw { s with es := idxK (moveF nw s.es old) s.es (k + 1) }) := (HSA.out (HMF.out.trans (by simp))).below HB6.out
        have hv := HLV.out
        rw [hlv] at hv
        clear hlv HMF HLV HSA
        rcases tf (!vw) (tf (standsB vx vy s.es) trivial) with h1 | ⟨h1, h2 | ⟨h2, _⟩⟩
        case inr.inr =>
          rw [h1, h2, Bool.false_or, Bool.false_or] at hv
          have h3 := hv.symm
          clear hv
          go_wp2
          go_roundw
          case rel => exact ⟨k + 1, by omega, by go_num, HG8, HK8⟩
          case measure => simp [intOf]; omega
        all_goals
          clear hv
          go_wp2
          go_roundw
          case rel => exact ⟨k + 1, by omega, by go_num, HG8, HK8⟩
          case measure => simp [intOf]; omega
      | false =>
        rw [hlv] at HMF HLV
        have hv := HLV.out.symm
        simp only [Bool.or_eq_false_iff] at hv
        obtain ⟨h1, h2, h3⟩ := hv
        have HMF2 : Hid (moveF nw s.es old k = if aloneR nw s.es old vx vy k s.es.length = true then updR 11 (updR 11 u 3 vx) 4 vy else u) := HMF.out
        clear HMF HLV hlv
        go_wp2_with fail
        clear h1 h2 h3 u6
        go_loopw [12, 13] (fun al j wr => ∃ m : Nat, m ≤ s.es.length ∧ j = .int .i64 m ∧ al = .bool (aloneR nw s.es old vx vy k m) ∧ Hid (Below w8.heap.size w8 wr)) (fun _ j _ => s.es.length - (intOf j).toNat)
        case atStart => exact ⟨0, by omega, rfl, rfl, Below.refl _ _⟩
        case round =>
          obtain ⟨m, hm, rfl, rfl, HBi⟩ := hrel
          have HEi := hid (HE6.out.below HBi.out)
          have u6 := HEi.out.rg.u6
          by_cases hml : m < s.es.length
          · have hmz : (m : Int) < (s.es.length : Int) := by omega
            have HAS := hid (aloneR_succ nw s.es old vx vy k m)
            have HHT : Hid (hitR nw s.es old vx vy k m = ((((decide ((m : Int) ≠ (k : Int)) && (wishV nw s.es (rec s.es m)).2.2) && isB old (fld (rec s.es m) 0)) && ((wishV nw s.es (rec s.es m)).1 == vx)) && ((wishV nw s.es (rec s.es m)).2.1 == vy))) := rfl
            have HUm : Hid (∀ X, Below wr.heap.size wr X → ∀ j, j < 11 → X.cell? ⟨b, o + m * 11 + j, none⟩ = some (.int .i64 (fld (rec s.es m) j))) := fun X hb j hj => by
              obtain ⟨b', o', e, hc'⟩ := (HEi.out.below hb).rg.rs.at hml
              cases e
              exact hc' j hj
            have HWC := hid (refWish_calls (w.heap.size + 1) nw (some ⟨b, o, none⟩) vc s.es (rec s.es m) wr HEi.out.rg (HOK.out m hml))
            generalize rec s.es m = v at HHT HUm HWC
            have hc := HUm.out wr (Below.refl _ _)
            have x0 : wr.cell? ⟨b, o + m * 11, none⟩ = some (.int .i64 (fld v 0)) := hc 0 (by omega)
            have x1 := hc 1 (by omega)
            have x2 := hc 2 (by omega)
            have x3 := hc 3 (by omega)
            have x4 := hc 4 (by omega)
            have x5 := hc 5 (by omega)
            have x6 := hc 6 (by omega)
            have x7 := hc 7 (by omega)
            have x8 := hc 8 (by omega)
            have x9 := hc 9 (by omega)
            have x10 := hc 10 (by omega)
            clear hc
            generalize wishV nw s.es v = V at HWC HHT
            obtain ⟨ax, ay, aw⟩ := V
            generalize aloneR nw s.es old vx vy k m = al at HAS ⊢
            generalize hitR nw s.es old vx vy k m = ht at HAS HHT
            go_wp2_with fail
            refine HWC.out.mono ?_
            clear HWC x0 x1 x2 x3 x4 x5 x6 x7 x8 x9 x10 u6
            rintro e w9 ⟨rfl, hb9⟩
            have HB9 : Hid (Below w8.heap.size w8 w9) := HBi.out.trans (hb9.mono HBi.out.size)
            have HE9 := hid (HEi.out.below hb9)
            have u6 := HE9.out.rg.u6
            have y0 : w9.cell? ⟨b, o + m * 11, none⟩ = some (.int .i64 (fld v 0)) := HUm.out w9 hb9 0 (by omega)
            clear hb9
            go_wp2_with fail
            refine (is_calls w.heap.size oc oa old (fld v 0) w9 hol HE9.out.bx HE9.out.nu).mono ?_
            rintro e w10 ⟨rfl, rfl⟩
            clear y0 u6
            generalize isB old (fld v 0) = iv at HHT ⊢
            have hv := HHT.out
            have hmk : decide ((m : Int) ≠ (k : Int)) = ((m : Int) != (k : Int)) := by
              by_cases e : (m : Int) = (k : Int)
              · simp [e]
              · simp [e]
            rw [hmk] at hv
            clear hmk HHT
            have HNO : Hid (ht = false → aloneR nw s.es old vx vy k (m + 1) = al) := fun h => by rw [HAS.out, h]; simp
            have HYE : Hid (ht = true → aloneR nw s.es old vx vy k (m + 1) = false) := fun h => by rw [HAS.out, h]; simp
            clear HAS
            by_cases hmk : m = k
            · have b1 : ((m : Int) != (k : Int)) = false := by simp [hmk]
              have b2 : (m != k) = false := by simp [hmk]
              have HA := hid (HNO.out (by rw [hv, b1]; rfl))
              clear hv hmk
              go_wp2
              go_roundw
              case rel => exact ⟨m + 1, by omega, by go_num, by rw [HA.out], HB9⟩
              case measure => simp [intOf]; omega
            have b1 : ((m : Int) != (k : Int)) = true := by simp; omega
            have b2 : (m != k) = true := by simp [hmk]
            rw [b1, Bool.true_and] at hv
            clear hmk
            cases aw with
            | false =>
              have HA := hid (HNO.out (by rw [hv]; rfl))
              clear hv
              go_wp2
              go_roundw
              case rel => exact ⟨m + 1, by omega, by go_num, by rw [HA.out], HB9⟩
              case measure => simp [intOf]; omega
            | true =>
            cases iv with
            | false =>
              have HA := hid (HNO.out (by rw [hv]; rfl))
              clear hv
              go_wp2
              go_roundw
              case rel => exact ⟨m + 1, by omega, by go_num, by rw [HA.out], HB9⟩
              case measure => simp [intOf]; omega
            | true =>
            rw [Bool.true_and, Bool.true_and] at hv
            cases hx : ax == vx with
            | false =>
              have HA := hid (HNO.out (by rw [hv, hx]; rfl))
              clear hv
              go_wp2
              go_roundw
              case rel => exact ⟨m + 1, by omega, by go_num, by rw [HA.out], HB9⟩
              case measure => simp [intOf]; omega
            | true =>
            rw [hx, Bool.true_and] at hv
            cases hy : ay == vy with
            | false =>
              have HA := hid (HNO.out (by rw [hv, hy]))
              clear hv
              go_wp2
              go_roundw
              case rel => exact ⟨m + 1, by omega, by go_num, by rw [HA.out], HB9⟩
              case measure => simp [intOf]; omega
            | true =>
              have HA := hid (HYE.out (by rw [hv, hy]))
              clear hv
              go_wp2
              go_roundw
              case rel => exact ⟨m + 1, by omega, by go_num, by rw [HA.out], HB9⟩
              case measure => simp [intOf]; omega
          · have hmz : ¬ (m : Int) < (s.es.length : Int) := by omega
            have hme : m = s.es.length := by omega
            subst hme
            have HKi := hid (HK8.out.below HBi.out)
            have HGi := hid ((HGr.out.below HB6.out).below HBi.out)
            generalize aloneR nw s.es old vx vy k s.es.length = al at HMF2 ⊢
            cases al with
            | false =>
              have HG9 : Hid (Gr base wr p (.slice ea s.es.length c) (.slice fa s.free.length fc) (.slice ba s.born.length bc) nw { s with es := idxK (moveF nw s.es old) s.es (k + 1) }) := ((HSA.out HMF2.out).below HB6.out).below HBi.out
              go_wp2
              go_roundw
              case rel => exact ⟨k + 1, by omega, by go_num, HG9, HKi⟩
              case measure => simp [intOf]; omega
            | true =>
              have HM1 : Hid (moveF nw s.es old k = updR 11 (updR 11 u 3 vx) 4 vy) := HMF2.out
              obtain ⟨g, rfl, hbg, hgl⟩ := HGE.out (by omega)
              have hkA : k < (idxK (moveF nw s.es old) s.es k).length := by rw [idxK_len]; exact hkl
              have hrk : rec (idxK (moveF nw s.es old) s.es k) k = u := by rw [idxK_rec _ _ _ hkl, if_neg (by omega)]; exact HRU.out
              obtain ⟨hcc, hff⟩ := HGi.out.er.cells hkA
              have z3 := hcc 3 (by omega)
              have z4 := hcc 4 (by omega)
              have q3 := hff (k * 11 + 3)
              have q4 := hff (k * 11 + 4)
              have q6 : wr.cell? ⟨p, 6, none⟩ = some (.slice (some ⟨g, 0, none⟩) s.es.length c) := HGi.out.cell 6
              have hpg : p ≠ g := fun e => row_ne HGi.out.er HGi.out.hp (by decide) (by rw [e]; rfl)
              have HFIN : Hid (Gr base ((wr.setCell ⟨g, k * 11 + 3, none⟩ (.int .i64 vx)).setCell ⟨g, k * 11 + 4, none⟩ (.int .i64 vy)) p (.slice (some ⟨g, 0, none⟩) s.es.length c) (.slice fa s.free.length fc) (.slice ba s.born.length bc) nw { s with es := idxK (moveF nw s.es old) s.es (k + 1) }) := by
                have h1 := gr_rput HGi.out (i := k) hkA (j := 3) (by omega) vx
                have h2 := gr_rput h1 (i := k) (by simpa using hkA) (j := 4) (by omega) vy
                simp only [set_set] at h2
                rw [rec_set_same (by simpa using hkA), hrk] at h2
                show Gr _ _ _ _ _ _ _ _
                rw [idxK_next, HM1.out]
                exact h2
              have HKF : Hid (Keep W (Value.slice (some ⟨g, 0, none⟩) s.es.length c).ownBlock ((wr.setCell ⟨g, k * 11 + 3, none⟩ (.int .i64 vx)).setCell ⟨g, k * 11 + 4, none⟩ (.int .i64 vy))) := (HKi.out.set _ _).set _ _
              clear hcc hff hrk
              go_wp2
              go_roundw
              case rel => exact ⟨k + 1, by omega, by go_num, HFIN, HKF⟩
              case measure => simp [intOf]; omega
    · have hkz : ¬ (k : Int) < (s.es.length : Int) := by omega
      have hke : k = s.es.length := by omega
      subst hke
      obtain ⟨M, hM⟩ : ∃ M, M = moveR nw s.es old := ⟨_, rfl⟩
      have hMl : M.length = s.es.length := by rw [hM]; exact idxK_len _ _ _
      have HGM : Hid (Gr base wr p (.slice ea s.es.length c) (.slice fa s.free.length fc) (.slice ba s.born.length bc) nw { s with es := M }) := by
        show Gr _ _ _ _ _ _ _ _
        rw [hM]
        exact HGr.out
      have HMM := hid hM
      clear HGr hM
      go_wp2_with fail
      clear u6
      go_loopw [18] (fun i wr => ∃ k : Nat, k ≤ M.length ∧ i = .int .i64 k ∧ Hid (Gr base wr p (.slice ea s.es.length c) (.slice fa s.free.length fc) (.slice ba s.born.length bc) nw { s with es := mapK (arriveF old) M k }) ∧ Hid (Keep W (Value.slice ea s.es.length c).ownBlock wr)) (fun i _ => M.length - (intOf i).toNat)
      case atStart => exact ⟨0, by omega, rfl, by rw [mapK_zero]; exact HGM, HKr⟩
      case round =>
        clear HGM HKr HEr
        obtain ⟨k, hk, rfl, HGr, HKr⟩ := hrel
        have HEr := hid (HKX.out wr HKr.out)
        have q6 : wr.cell? ⟨p, 6, none⟩ = some (.slice ea s.es.length c) := HGr.out.cell 6
        by_cases hkl : k < M.length
        · have hkz2 : (k : Int) < (s.es.length : Int) := by omega
          obtain ⟨g, rfl, hbg, hgl⟩ := HGE.out (by omega)
          have hkA : k < (mapK (arriveF old) M k).length := by rw [mapK_length _ _ hk]; exact hkl
          have hrk : rec (mapK (arriveF old) M k) k = rec M k := by rw [mapK_rec _ _ hk hkl, if_neg (by omega)]
          obtain ⟨hcc, _⟩ := HGr.out.er.cells hkA
          rw [hrk] at hcc
          have HRK := hid hrk
          have HSA : Hid (arriveF old (rec M k) = rec M k → mapK (arriveF old) M (k + 1) = mapK (arriveF old) M k) := fun h => mapK_same _ _ hkl h
          have HNX : Hid (mapK (arriveF old) M (k + 1) = (mapK (arriveF old) M k).set k (arriveF old (rec M k))) := mapK_next _ _ hkl
          have HAF : Hid (arriveF old (rec M k) = if (((isB old (fld (rec M k) 0) && (fld (rec M k) 6 == 1)) && (fld (rec M k) 3 == fld (rec M k) 7)) && (fld (rec M k) 4 == fld (rec M k) 8)) = true then tellR (rec M k) 0 0 0 0 else rec M k) := rfl
          clear hrk
          generalize rec M k = u at hcc HRK HSA HNX HAF
          have x0 : wr.cell? ⟨g, k * 11, none⟩ = some (.int .i64 (fld u 0)) := hcc 0 (by omega)
          have x1 := hcc 1 (by omega)
          have x2 := hcc 2 (by omega)
          have x3 := hcc 3 (by omega)
          have x4 := hcc 4 (by omega)
          have x5 := hcc 5 (by omega)
          have x6 := hcc 6 (by omega)
          have x7 := hcc 7 (by omega)
          have x8 := hcc 8 (by omega)
          have x9 := hcc 9 (by omega)
          have x10 := hcc 10 (by omega)
          clear hcc
          obtain ⟨X, hX⟩ : ∃ X, wr.alloc (.cells (unitC u) 110) = X := ⟨_, rfl⟩
          have hbX : Below wr.heap.size wr X := by rw [← hX]; exact (Below.refl _ wr).alloc (Nat.le_refl _) _
          have hxX : X.heap[wr.heap.size]? = some (.cells (unitC u) 110) := by rw [← hX]; exact heap_alloc_new _ _
          have y0 : X.cell? ⟨wr.heap.size, 0, none⟩ = some (.int .i64 (fld u 0)) := unit_box hxX 0
          have HEX2 := hid (HEr.out.below hbX)
          have HGX := hid (HGr.out.below hbX)
          have HKX2 := hid (HKr.out.below hbX)
          have HXX := hid hxX
          clear hbX hxX
          go_wp2_with fail
          refine (is_calls w.heap.size oc oa old (fld u 0) X hol HEX2.out.bx HEX2.out.nu).mono ?_
          rintro e w7 ⟨rfl, rfl⟩
          clear hX x0 x1 x2 x3 x4 x5 x6 x7 x8 x9 x10 y0
          have y3 : w7.cell? ⟨wr.heap.size, 3, none⟩ = some (.int .i64 (fld u 3)) := unit_box HXX.out 3
          have y4 : w7.cell? ⟨wr.heap.size, 4, none⟩ = some (.int .i64 (fld u 4)) := unit_box HXX.out 4
          have y6 : w7.cell? ⟨wr.heap.size, 6, none⟩ = some (.int .i64 (fld u 6)) := unit_box HXX.out 6
          have y7 : w7.cell? ⟨wr.heap.size, 7, none⟩ = some (.int .i64 (fld u 7)) := unit_box HXX.out 7
          have y8 : w7.cell? ⟨wr.heap.size, 8, none⟩ = some (.int .i64 (fld u 8)) := unit_box HXX.out 8
          have HNO : Hid ((((isB old (fld u 0) && (fld u 6 == 1)) && (fld u 3 == fld u 7)) && (fld u 4 == fld u 8)) = false → Gr base w7 p (.slice (some ⟨g, 0, none⟩) s.es.length c) (.slice fa s.free.length fc) (.slice ba s.born.length bc) nw { s with es := mapK (arriveF old) M (k + 1) }) := fun h => by
            rw [HSA.out (by rw [HAF.out, h]; rfl)]
            exact HGX.out
          generalize isB old (fld u 0) = iv at HNO HAF ⊢
          cases iv with
          | false =>
            have HG8 := hid (HNO.out rfl)
            go_wp2
            go_roundw
            case rel => exact ⟨k + 1, by omega, by go_num, HG8, HKX2⟩
            case measure => simp [intOf]; omega
          | true =>
          cases h6 : fld u 6 == 1 with
          | false =>
            have HG8 := hid (HNO.out (by rw [h6]; rfl))
            go_wp2
            go_roundw
            case rel => exact ⟨k + 1, by omega, by go_num, HG8, HKX2⟩
            case measure => simp [intOf]; omega
          | true =>
          cases h3 : fld u 3 == fld u 7 with
          | false =>
            have HG8 := hid (HNO.out (by rw [h6, h3]; rfl))
            go_wp2
            go_roundw
            case rel => exact ⟨k + 1, by omega, by go_num, HG8, HKX2⟩
            case measure => simp [intOf]; omega
          | true =>
          cases h4 : fld u 4 == fld u 8 with
          | false =>
            have HG8 := hid (HNO.out (by rw [h6, h3, h4]; rfl))
            go_wp2
            go_roundw
            case rel => exact ⟨k + 1, by omega, by go_num, HG8, HKX2⟩
            case measure => simp [intOf]; omega
          | true =>
            have HA2 : Hid (arriveF old u = tellR u 0 0 0 0) := HAF.out.trans (by rw [h6, h3, h4]; rfl)
            have HTC := hid (tell_exact base p nw { s with es := mapK (arriveF old) M k } k 0 0 0 0 w7 g c (.slice fa s.free.length fc) (.slice ba s.born.length bc) hkA (by have h := HGX.out; rw [show s.es.length = (mapK (arriveF old) M k).length by rw [mapK_length _ _ hk, hMl]] at h; exact h))
            have HG8 : Hid (Gr base (tellW w7 g (k * 11) 0 0 0 0) p (.slice (some ⟨g, 0, none⟩) s.es.length c) (.slice fa s.free.length fc) (.slice ba s.born.length bc) nw { s with es := mapK (arriveF old) M (k + 1) }) := by
              have h := gr_tell HGX.out hkA 0 0 0 0
              show Gr _ _ _ _ _ _ _ _
              rw [HNX.out, HA2.out, ← HRK.out]
              exact h
            have HK8 : Hid (Keep W (Value.slice (some ⟨g, 0, none⟩) s.es.length c).ownBlock (tellW w7 g (k * 11) 0 0 0 0)) := (((HKX2.out.set _ _).set _ _).set _ _).set _ _
            go_wp2_with fail
            refine HTC.out.mono ?_
            clear HTC
            rintro e w8 ⟨rfl, rfl⟩
            go_wp2
            go_roundw
            case rel => exact ⟨k + 1, by omega, by go_num, HG8, HK8⟩
            case measure => simp [intOf]; omega
        · have hkz2 : ¬ (k : Int) < (s.es.length : Int) := by omega
          have HGF : Hid (Gr base wr p (.slice ea s.es.length c) (.slice fa s.free.length fc) (.slice ba s.born.length bc) nw { s with es := arriveR old (moveR nw s.es old) }) := by
            show Gr _ _ _ _ _ _ _ _
            have h := HGr.out
            rw [mapK_all _ _ (by omega), HMM.out] at h
            exact h
          have hszr := HKr.out.1.size
          have HCA := hid (HTO.out wr HGF.out (by omega) HEr.out.bx HEr.out.nu (fun b o e => by
            obtain ⟨h1, h2⟩ := HOA.out b o e
            have h3 := HG.out.apart.1 h2
            exact ⟨by omega, HGF.out.apart.2 ⟨h3.1, h3.2.1, h3.2.2.1, h3.2.2.2⟩⟩) (HGF.out.apart.2 ⟨by omega, fun e => by have := (World.ownsRow.lt HG.out.er _ e).2; omega, fun e => by have := (World.ownsRow.lt HG.out.fr _ e).2; omega, fun e => by have := (World.ownsRow.lt HG.out.br _ e).2; omega⟩))
          have HBR : Hid (Below base w wr) := by
            exact (HBW.out.mono hbs).trans (HKr.out.base (by omega) fun k e => (World.ownsRow.lt HG.out.er k e).1)
          go_wp2_with fail
          refine HCA.out.mono ?_
          clear HCA
          rintro e w8 ⟨rfl, hG8, hb8⟩
          have HG8 := hid hG8
          have HB8 := hid (HBR.out.trans hb8)
          clear hG8 hb8
          go_wp2
          go_end0
          exact ⟨rfl, HG8.out, HB8.out⟩
end Go.Proofs.Ytgiieepfhohmhaa
