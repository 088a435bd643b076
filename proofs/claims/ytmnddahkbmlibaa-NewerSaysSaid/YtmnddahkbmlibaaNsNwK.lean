/- Package newer of the program: a state in memory of its own; a tick begins. -/
import Derived.Deep.DeepCutAuto
import Derived.Test.YtmnddahkbmlibaaNsRefEA
import Derived.Test.YtmnddahkbmlibaaNsNwI
namespace Go.Proofs.Ytmnddahkbmlibaa
open Go.RowKit Go.Maps
theorem five_cells {w : World} {b : Nat} {x0 x1 x2 x3 x4 : Value} {t : TypeId} (h : w.heap[b]? = some (.cells #[x0, x1, x2, x3, x4] t)) :
    w.cell? ⟨b, 0, none⟩ = some x0 ∧ w.cell? ⟨b, 1, none⟩ = some x1 ∧ w.cell? ⟨b, 2, none⟩ = some x2 ∧ w.cell? ⟨b, 3, none⟩ = some x3 ∧ w.cell? ⟨b, 4, none⟩ = some x4 ∧ (∀ j, w.frozen? ⟨b, j, none⟩ = false) :=
  ⟨cell_of_row w b 0 _ _ _ h, cell_of_row w b 1 _ _ _ h, cell_of_row w b 2 _ _ _ h, cell_of_row w b 3 _ _ _ h, cell_of_row w b 4 _ _ _ h, fun j => frozen_of_row w b j _ _ h⟩
set_option maxRecDepth 100000 in
set_option maxHeartbeats 4000000 in
theorem freshN_calls (t g0 g1 nx : Int) (ea : Option Addr) (ec : Nat) (es : List (List Int)) (w : World) (hen : ea = none → ec = 0) (hle : es.length ≤ 1000) (hrow : Recs w ea 11 es) :
    Calls Try.prog 116 #[newerV t g0 g1 nx (.slice ea es.length ec)] w fun e w' => ∃ uv, e = .returned (newerV t g0 g1 nx uv) ∧ RowU w.heap.size w' uv es ∧ Below w.heap.size w w' := by
  obtain ⟨A, hA⟩ : ∃ A : Array Value, A = #[.int .i64 t, .int .i64 g0, .int .i64 g1, .int .i64 nx, .slice ea es.length ec] := ⟨_, rfl⟩
  obtain ⟨Z, hZ⟩ : ∃ Z : Array Value, Z = #[.int .i64 0, .int .i64 0, .int .i64 0, .int .i64 0, .slice none 0 0] := ⟨_, rfl⟩
  obtain ⟨W0, hW0⟩ : ∃ W0, W0 = (w.alloc (.cells A 90)).alloc (.cells Z 90) := ⟨_, rfl⟩
  have hs0 : W0.heap.size = w.heap.size + 2 := by rw [hW0]; simp [go_sem]
  have hb0 : Below w.heap.size w W0 := by rw [hW0]; exact ((Below.refl _ w).alloc (Nat.le_refl _) _).alloc (by simp [go_sem]) _
  have hh1 : W0.heap[w.heap.size]? = some (.cells A 90) := by
    rw [hW0, heap_alloc_old _ _ (by simp [go_sem])]
    exact heap_alloc_new w _
  have hh2 : W0.heap[w.heap.size + 1]? = some (.cells Z 90) := by
    have e : w.heap.size + 1 = (w.alloc (.cells A 90)).heap.size := by simp [go_sem]
    rw [hW0, e]
    exact heap_alloc_new _ _
  have HR := hid (hrow.below hb0)
  have HS0 := hid hs0
  have HB0 := hid hb0
  have HH1 := hid hh1
  have HH2 := hid hh2
  have HW0 := hid hW0
  have HA := hid hA
  have HZ := hid hZ
  clear hrow hs0 hb0 hh1 hh2 hW0 hA hZ
  go_enter Try.func116, Try.ntmps116
  go_wp2_with (first
    | (at_builtin; rw [← HA.out, ← HZ.out, ← HW0.out]; refine wp_rowsU _ rfl _ _ rfl w.heap.size _ [] rfl (World.ownsRow_nil _ _ _ _) ea ec es rfl HR.out hen (by simp; omega) (by rw [HS0.out]; omega) ?_
       intro v1 w1 hr1 hg1 hl1
       rw [List.nil_append] at hr1
       obtain ⟨va, vc, rfl, _, _, _⟩ := hr1.open
       have HR1 := hid hr1
       have HK1 := hid (grown_below hg1)
       have HL1 := hid hl1
       have e1 := (HK1.out.block w.heap.size (by rw [HS0.out]; omega)).trans HH1.out
       have e2 := (HK1.out.block (w.heap.size + 1) (by rw [HS0.out]; omega)).trans HH2.out
       rw [HA.out] at e1
       rw [HZ.out] at e2
       have E1 := hid e1
       have E2 := hid e2
       obtain ⟨a0, a1, a2, a3, a4, af⟩ := five_cells e1
       obtain ⟨d0, d1, d2, d3, d4, df⟩ := five_cells e2
       clear hr1 hg1 hl1 e1 e2))
  have n1a := row_ne HR1.out E1.out (by decide)
  have n1b := row_ne HR1.out E2.out (by decide)
  have hbw : Below w.heap.size w w1 := HB0.out.trans (HK1.out.mono (by rw [HS0.out]; omega))
  refine bodyPost_ret (v := newerV t g0 g1 nx (.slice va es.length vc)) (by simp [results, Try.results116, go_sem, d0, d1, d2, d3, d4]) rfl ⟨_, rfl, ?_, ?_⟩
  · exact row_set (row_set (row_set (row_set (row_set (row_set HR1.out n1a _ _) n1b _ _) n1b _ _) n1b _ _) n1b _ _) n1b _ _
  · exact (((((hbw.setCell (p := ⟨w.heap.size, 4, none⟩) (Nat.le_refl _) _).setCell (p := ⟨w.heap.size + 1, 0, none⟩) (Nat.le_succ _) _).setCell (p := ⟨w.heap.size + 1, 1, none⟩) (Nat.le_succ _) _).setCell (p := ⟨w.heap.size + 1, 2, none⟩) (Nat.le_succ _) _).setCell (p := ⟨w.heap.size + 1, 3, none⟩) (Nat.le_succ _) _).setCell (p := ⟨w.heap.size + 1, 4, none⟩) (Nat.le_succ _) _
end Go.Proofs.Ytmnddahkbmlibaa
namespace Go.Proofs.Ytmnddahkbmlibaa
open Go.RowKit Go.Maps
def BeginN (b : Nat) (w wx : World) (p : Nat) (s : St) (f : Int → Option Value) (old : Int) : Prop := ∃ uv B, GmN b wx p uv B s f old ∧ Below b w wx
theorem begin_fin {w W w2 : World} {t g0 g1 nx : Int} {uv : Value} {es : List (List Int)} {old : Int} {b : Nat} (hs : w.heap.size ≤ W.heap.size) (hW : Below w.heap.size w W) (hB : Below W.heap.size W w2) (hb : w.heap.size ≤ b) (hr : RowU b w2 uv es) :
    BeginN w.heap.size w ((w2.alloc (.map #[] 0)).alloc (.cells #[.int .i64 t, .int .i64 g0, .int .i64 g1, .int .i64 nx, uv, .map (some w2.heap.size), .int .i64 old] 162)) (w2.heap.size + 1) ⟨t, g0, g1, nx, [], es, []⟩ (fun _ => none) old := by
  have hsm : (w2.alloc (.map #[] 0)).heap.size = w2.heap.size + 1 := by simp [go_sem]
  have hs2 : w.heap.size ≤ w2.heap.size := Nat.le_trans hs hB.size
  have h1 : Below w2.heap.size w2 (w2.alloc (.map #[] 0)) := (Below.refl _ w2).alloc (Nat.le_refl _) _
  have h2 : ∀ o : Obj, Below (w2.alloc (.map #[] 0)).heap.size (w2.alloc (.map #[] 0)) ((w2.alloc (.map #[] 0)).alloc o) := fun o => (Below.refl _ _).alloc (Nat.le_refl _) o
  have h3 : ∀ o : Obj, Below w2.heap.size w2 ((w2.alloc (.map #[] 0)).alloc o) := fun o => h1.trans ((h2 o).mono (by omega))
  refine ⟨uv, w2.heap.size, ⟨?_, row_below (own_mono hr hb) (h3 _), (Who.made w2).below (h2 _), by omega, by omega⟩, (hW.trans (hB.mono hs)).trans ((h3 _).mono hs2)⟩
  rw [← hsm]
  exact heap_alloc_new _ _
theorem begin_fin2 {w W w2 : World} {t g0 g1 nx : Int} {uv : Value} {es : List (List Int)} {old : Int} {b : Nat} (hs : w.heap.size ≤ W.heap.size) (hW : Below w.heap.size w W) (hB : Below (W.alloc (.map #[] 0)).heap.size (W.alloc (.map #[] 0)) w2) (hb : w.heap.size ≤ b) (hr : RowU b w2 uv es) :
    BeginN w.heap.size w (w2.alloc (.cells #[.int .i64 t, .int .i64 g0, .int .i64 g1, .int .i64 nx, uv, .map (some W.heap.size), .int .i64 old] 162)) w2.heap.size ⟨t, g0, g1, nx, [], es, []⟩ (fun _ => none) old := by
  have h0 : Below W.heap.size W (W.alloc (.map #[] 0)) := (Below.refl _ W).alloc (Nat.le_refl _) _
  have hB' : Below W.heap.size W w2 := h0.trans (hB.mono h0.size)
  have hs2 : w.heap.size ≤ w2.heap.size := Nat.le_trans hs hB'.size
  have h2 : ∀ o : Obj, Below w2.heap.size w2 (w2.alloc o) := fun o => (Below.refl _ _).alloc (Nat.le_refl _) o
  exact ⟨uv, W.heap.size, ⟨heap_alloc_new _ _, row_below (own_mono hr hb) (h2 _), ((Who.made W).below hB).below (h2 _), hs2, hs⟩, (hW.trans (hB'.mono hs)).trans ((h2 _).mono hs2)⟩
set_option maxRecDepth 100000 in
set_option maxHeartbeats 4000000 in
theorem beginN_calls (t g0 g1 nx : Int) (ea : Option Addr) (ec : Nat) (es : List (List Int)) (w : World) (hen : ea = none → ec = 0) (hle : es.length ≤ 1000) (hrow : Recs w ea 11 es) :
    Calls Try.prog 105 #[newerV t g0 g1 nx (.slice ea es.length ec)] w fun e w' => ∃ p uv B, e = .returned (.pointer (some ⟨p, 0, none⟩)) ∧ GmN w.heap.size w' p uv B ⟨t, g0, g1, nx, [], es, []⟩ (whoK es es.length) es.length ∧ Below w.heap.size w w' := by
  obtain ⟨W, hW⟩ : ∃ W, w.alloc (.cells (newerC t g0 g1 nx (.slice ea es.length ec)) 90) = W := ⟨_, rfl⟩
  have hbW : Below w.heap.size w W := by rw [← hW]; exact (Below.refl _ w).alloc (Nat.le_refl _) _
  have hsW : W.heap.size = w.heap.size + 1 := by rw [← hW]; simp [go_sem]
  have hX : W.heap[w.heap.size]? = some (.cells (newerC t g0 g1 nx (.slice ea es.length ec)) 90) := by rw [← hW]; exact heap_alloc_new w _
  obtain ⟨x0, x1, x2, x3, x4, _⟩ := five_cells hX
  have HC : Hid (∀ W', Recs W' ea 11 es → Calls Try.prog 116 #[newerV t g0 g1 nx (.slice ea es.length ec)] W' fun e w' => ∃ uv, e = .returned (newerV t g0 g1 nx uv) ∧ RowU W'.heap.size w' uv es ∧ Below W'.heap.size W' w') := fun W' hW' => freshN_calls t g0 g1 nx ea ec es W' hen hle hW'
  have HR := hid (hrow.below hbW)
  have HBW := hid hbW
  have HSW := hid hsW
  have HX := hid hX
  have hmm := @run_makeMap Try.prog
  clear hrow hbW hsW hX hen
  go_enter Try.func105, Try.ntmps105
  go_wp2_with fail
  go_cut [3] (fun r wx => ∃ p, r = .pointer (some ⟨p, 0, none⟩) ∧ Hid (BeginN w.heap.size w wx p ⟨t, g0, g1, nx, [], es, []⟩ (fun _ => none) es.length))
  case first =>
    clear hW
    have hsz : w.heap.size < W.heap.size := by rw [HSW.out]; omega
    have x4m : ∀ o : Obj, (W.alloc o).cell? ⟨w.heap.size, 4, none⟩ = some (.slice ea es.length ec) := fun o => (((Below.refl _ W).alloc (Nat.le_refl _) o).cell (p := ⟨w.heap.size, 4, none⟩) hsz).trans x4
    have HRm : Hid (Recs (W.alloc (.map #[] 0)).drew ea 11 es) := (HR.out.below ((Below.refl _ W).alloc (Nat.le_refl _) (.map #[] 0))).drewN 1
    have hszm : w.heap.size < (W.alloc (.map #[] 0)).heap.size := Nat.lt_of_lt_of_le hsz ((Below.refl _ W).alloc (Nat.le_refl _) (.map #[] 0)).size
    go_region_with (go_at_call 116; first
      | (refine (HC.out _ (HR.out.drewN _)).mono ?_; rintro e w2 ⟨uv, rfl, hr2, hb2⟩; have hB2 : Below W.heap.size W w2 := below_of_drewN hb2; have q4 : w2.cell? ⟨w.heap.size, 4, none⟩ = some (.slice ea es.length ec) := (hB2.cell (p := ⟨w.heap.size, 4, none⟩) hsz).trans x4; have q4m : ∀ o : Obj, (w2.alloc o).cell? ⟨w.heap.size, 4, none⟩ = some (.slice ea es.length ec) := fun o => (((Below.refl _ w2).alloc (Nat.le_refl _) o).cell (p := ⟨w.heap.size, 4, none⟩) (Nat.lt_of_lt_of_le hsz hB2.size)).trans q4; have HB2 := hid hB2; have HR2 := hid hr2; clear hB2 hr2 hb2)
      | (refine (HC.out _ HRm.out).mono ?_; rintro e w2 ⟨uv, rfl, hr2, hb2⟩; have hB2 : Below (W.alloc (.map #[] 0)).heap.size (W.alloc (.map #[] 0)) w2 := below_of_drewN (n := 1) hb2; have q4 : w2.cell? ⟨w.heap.size, 4, none⟩ = some (.slice ea es.length ec) := (hB2.cell (p := ⟨w.heap.size, 4, none⟩) hszm).trans (x4m _); have HM2 := hid hB2; have HR2m := hid hr2; clear hB2 hr2 hb2))
    all_goals
      go_wp2
      go_meet
      first
        | exact ⟨_, rfl, begin_fin (Nat.le_of_lt hsz) HBW.out HB2.out (Nat.le_of_lt hsz) HR2.out⟩
        | exact ⟨_, rfl, begin_fin2 (Nat.le_of_lt hsz) HBW.out HM2.out (Nat.le_of_lt hszm) HR2m.out⟩
  case rest =>
    obtain ⟨p, rfl, HN⟩ := hcut
    obtain ⟨uv, B, hG, hB⟩ := HN.out
    have HT := hid (tellN_calls w.heap.size p B uv _ _ _ wc hle hG hB.size)
    have HB := hid hB
    clear x0 x1 x2 x3 x4 HC HR HX hmm hG hB HN hW
    go_wp2_with fail
    refine HT.out.mono ?_
    rintro e w3 ⟨rfl, hG3, hB3⟩
    have HG3 := hid hG3
    have HB3 := hid (HB.out.trans hB3)
    clear hG3 hB3 HT
    go_wp2
    go_ret
    exact ⟨p, uv, B, rfl, HG3.out, HB3.out⟩
end Go.Proofs.Ytmnddahkbmlibaa
namespace Go.Proofs.Ytmnddahkbmlibaa
open Go.RowKit
def orderN (nx : Int) (us : List (List Int)) (i : Nat) : Prop := (0 < i ∧ fld (rec us i) 0 ≤ fld (rec us (i - 1)) 0) ∨ nx ≤ fld (rec us i) 0
instance (nx : Int) (us : List (List Int)) (i : Nat) : Decidable (orderN nx us i) := by unfold orderN; infer_instance
def unitAtN (t nx : Int) (us : List (List Int)) (i : Nat) : Nat :=
  if boundsN (rec us i) = true ∧ inZ (fld (rec us i) 10) 0 t = true then
    if ownerE (rec us i) = true ∧ placeN (rec us i) = true ∧ targetE (rec us i) = true then
      if orderN nx us i then 3 else 0
    else 3
  else 1
set_option maxRecDepth 100000 in
set_option maxHeartbeats 8000000 in
theorem checkUnit_calls (t g0 g1 nx : Int) (us : List (List Int)) (ua : Option Addr) (uc : Nat) (i : Nat) (w : World) (hi : i < us.length) (hn : us.length ≤ 1000) (hrow : Recs w ua 11 us) :
    Calls Try.prog 113 #[newerV t g0 g1 nx (.slice ua us.length uc), .int .i64 i] w fun e w' => e = .returned (errV (unitAtN t nx us i)) ∧ Below w.heap.size w w' := by
  obtain ⟨W, hW⟩ : ∃ W, w.alloc (.cells (newerC t g0 g1 nx (.slice ua us.length uc)) 90) = W := ⟨_, rfl⟩
  have hbW : Below w.heap.size w W := by rw [← hW]; exact (Below.refl _ w).alloc (Nat.le_refl _) _
  have hh0 : W.heap[w.heap.size]? = some (.cells (newerC t g0 g1 nx (.slice ua us.length uc)) 90) := by rw [← hW]; exact heap_alloc_new w _
  have hrW := hrow.below hbW
  obtain ⟨b, o, rfl, hc⟩ := hrW.at hi
  have l0 : W.cell? ⟨b, o + i * 11, none⟩ = some (.int .i64 (fld (rec us i) 0)) := hc 0 (by omega)
  have l1 := hc 1 (by omega)
  have l2 := hc 2 (by omega)
  have l3 := hc 3 (by omega)
  have l4 := hc 4 (by omega)
  have l5 := hc 5 (by omega)
  have l6 := hc 6 (by omega)
  have l7 := hc 7 (by omega)
  have l8 := hc 8 (by omega)
  have l9 := hc 9 (by omega)
  have l10 := hc 10 (by omega)
  have y4 : W.cell? ⟨w.heap.size, 4, none⟩ = some (.slice (some ⟨b, o, none⟩) us.length uc) := cell_of_row W _ 4 _ _ _ hh0
  obtain ⟨u, hu⟩ : ∃ u, rec us i = u := ⟨_, rfl⟩
  have HU := hid hu
  rw [hu] at l0 l1 l2 l3 l4 l5 l6 l7 l8 l9 l10
  have hil : (i : Int) < (us.length : Int) := by omega
  obtain ⟨X, hX⟩ : ∃ X, W.alloc (.cells (unitC u) 110) = X := ⟨_, rfl⟩
  have hbX : Below W.heap.size W X := by rw [← hX]; exact (Below.refl _ _).alloc (Nat.le_refl _) _
  have hhX : X.heap[W.heap.size]? = some (.cells (unitC u) 110) := by rw [← hX]; exact heap_alloc_new _ _
  have hsW : w.heap.size < W.heap.size := (Array.getElem?_eq_some_iff.1 hh0).1
  have hXw : X.heap[w.heap.size]? = some (.cells (newerC t g0 g1 nx (.slice (some ⟨b, o, none⟩) us.length uc)) 90) := (hbX.block _ hsW).trans hh0
  have HBX : Hid (Below w.heap.size w X) := hbW.trans (hbX.mono hbW.size)
  have HRX := hid (hrW.below hbX)
  have HXU := hid hhX
  have HXW := hid hXw
  have HXX := hid hX
  have hsX : W.heap.size < X.heap.size := (Array.getElem?_eq_some_iff.1 hhX).1
  clear hc hrow hrW hbW hh0 hu hX hbX hhX hXw
  have KU : ∀ Y, Below X.heap.size X Y → Y.heap[W.heap.size]? = some (.cells (unitC u) 110) := fun Y h => (h.block _ hsX).trans HXU.out
  have KW : ∀ Y, Below X.heap.size X Y → Y.heap[w.heap.size]? = some (.cells (newerC t g0 g1 nx (.slice (some ⟨b, o, none⟩) us.length uc)) 90) := fun Y h => (h.block _ (by omega)).trans HXW.out
  have HKU := hid KU
  have HKW := hid KW
  clear KU KW
  go_enter Try.func113, Try.ntmps113
  go_upto_region 2 with fail
  rw [HXX.out]
  clear l0 l1 l2 l3 l4 l5 l6 l7 l8 l9 l10 y4
  obtain ⟨x0, x1, x2, x3, x4, x5, x6, x7, x8, x9, x10⟩ := unit_at HXU.out
  go_wp2_with fail
  refine (inBoundsN_calls u X).mono ?_
  rintro e w2 ⟨rfl, hb2⟩
  have HB2 := hid hb2
  clear x0 x1 x2 x3 x4 x5 x6 x7 x8 x9 x10 hb2
  cases h1 : boundsN u
  · go_wp2
    go_ret
    exact ⟨retE (c := 1) (by unfold unitAtN; rw [HU.out, h1]; simp) rfl, HBX.out.trans (HB2.out.mono HBX.out.size)⟩
  have x10 := (unit_at (HKU.out w2 HB2.out)).2.2.2.2.2.2.2.2.2.2
  have s0 : w2.cell? ⟨w.heap.size, 0, none⟩ = some (.int .i64 t) := cell_of_row w2 _ 0 _ _ _ (HKW.out w2 HB2.out)
  go_wp2_with fail
  refine (withinN_calls _ _ _ _).mono ?_
  rintro e w' ⟨rfl, rfl⟩
  clear x10 s0
  cases h10 : inZ (fld u 10) 0 t
  · go_wp2
    go_ret
    exact ⟨retE (c := 1) (by unfold unitAtN; rw [HU.out, h10]; simp) rfl, HBX.out.trans (HB2.out.mono HBX.out.size)⟩
  obtain ⟨x0, x1, x2, x3, x4, x5, x6, x7, x8, x9, x10⟩ := unit_at (HKU.out w' HB2.out)
  go_wp2_with fail
  refine (rightOwnerN_calls u _).mono ?_
  rintro e w3 ⟨rfl, hb3⟩
  have HB3 : Hid (Below X.heap.size X w3) := HB2.out.trans (hb3.mono HB2.out.size)
  clear x0 x1 x2 x3 x4 x5 x6 x7 x8 x9 x10 hb3 HB2
  cases h2 : ownerE u
  · go_wp2
    go_ret
    exact ⟨retE (c := 3) (by unfold unitAtN; rw [HU.out, h1, h10, h2]; simp) rfl, HBX.out.trans (HB3.out.mono HBX.out.size)⟩
  obtain ⟨x0, x1, x2, x3, x4, x5, x6, x7, x8, x9, x10⟩ := unit_at (HKU.out w3 HB3.out)
  go_wp2_with fail
  refine (rightPlaceN_calls u _).mono ?_
  rintro e w4 ⟨rfl, hb4⟩
  have HB4 : Hid (Below X.heap.size X w4) := HB3.out.trans (hb4.mono HB3.out.size)
  clear x0 x1 x2 x3 x4 x5 x6 x7 x8 x9 x10 hb4 HB3
  cases h3 : placeN u
  · go_wp2
    go_ret
    exact ⟨retE (c := 3) (by unfold unitAtN; rw [HU.out, h1, h10, h2, h3]; simp) rfl, HBX.out.trans (HB4.out.mono HBX.out.size)⟩
  obtain ⟨x0, x1, x2, x3, x4, x5, x6, x7, x8, x9, x10⟩ := unit_at (HKU.out w4 HB4.out)
  go_wp2_with fail
  refine (rightTargetN_calls u _).mono ?_
  rintro e w5 ⟨rfl, hb5⟩
  have HB5 : Hid (Below X.heap.size X w5) := HB4.out.trans (hb5.mono HB4.out.size)
  clear x0 x1 x2 x3 x4 x5 x6 x7 x8 x9 x10 hb5 HB4
  cases h4 : targetE u
  · go_wp2
    go_ret
    exact ⟨retE (c := 3) (by unfold unitAtN; rw [HU.out, h1, h10, h2, h3, h4]; simp) rfl, HBX.out.trans (HB5.out.mono HBX.out.size)⟩
  have HE : Hid (unitAtN t nx us i = if orderN nx us i then 3 else 0) := by
    show _ = _
    unfold unitAtN
    rw [HU.out, h1, h10, h2, h3, h4]
    simp
  have HO : Hid (orderN nx us i ↔ (0 < i ∧ fld u 0 ≤ fld (rec us (i - 1)) 0) ∨ nx ≤ fld u 0) := by
    show _ ↔ _
    unfold orderN
    rw [HU.out]
  have HBw : Hid (Below w.heap.size w w5) := HBX.out.trans (HB5.out.mono HBX.out.size)
  have x0 := (unit_at (HKU.out w5 HB5.out)).1
  have s3 : w5.cell? ⟨w.heap.size, 3, none⟩ = some (.int .i64 nx) := cell_of_row w5 _ 3 _ _ _ (HKW.out w5 HB5.out)
  have s4 : w5.cell? ⟨w.heap.size, 4, none⟩ = some (.slice (some ⟨b, o, none⟩) us.length uc) := cell_of_row w5 _ 4 _ _ _ (HKW.out w5 HB5.out)
  have HR5 := hid (HRX.out.below HB5.out)
  clear h1 h2 h3 h4 h10 HKU HKW HXX HXU HXW HRX
  rcases Nat.eq_zero_or_pos i with hi0 | hi0
  · subst hi0
    by_cases hnx : nx ≤ fld u 0
    · have HV : Hid (unitAtN t nx us 0 = 3) := by show _ = _; rw [HE.out, if_pos (HO.out.2 (Or.inr hnx))]
      go_wp2_with fail
      go_quiet (fail)
      go_wp2
      go_ret
      exact ⟨retE (c := 3) HV.out.symm rfl, below_drewN HBw.out _⟩
    · have HV : Hid (unitAtN t nx us 0 = 0) := by show _ = _; rw [HE.out, if_neg (fun h => by rcases HO.out.1 h with h | h <;> omega)]
      go_wp2_with fail
      go_quiet (fail)
      go_wp2
      go_ret
      exact ⟨retE (c := 0) HV.out.symm rfl, below_drewN HBw.out _⟩
  · obtain ⟨k, rfl⟩ : ∃ k, i = k + 1 := ⟨i - 1, by omega⟩
    obtain ⟨b', o', hbo, hc'⟩ := HR5.out.at (i := k) (by omega)
    cases hbo
    have m0 : w5.cell? ⟨b, o + k * 11, none⟩ = some (.int .i64 (fld (rec us k) 0)) := hc' 0 (by omega)
    have hk0 : (0 : Int) < ((k + 1 : Nat) : Int) := by omega
    have hk1 : ((k + 1 : Nat) : Int) - 1 = (k : Int) := by omega
    have hkl : (k : Int) < (us.length : Int) := by omega
    have hwr : IntKind.i64.wrap (k : Int) = (k : Int) := IntWalk.i64_in _ ⟨by omega, by omega⟩
    have HO' : Hid (orderN nx us (k + 1) ↔ fld u 0 ≤ fld (rec us k) 0 ∨ nx ≤ fld u 0) := by
      show _ ↔ _
      rw [HO.out, show k + 1 - 1 = k by omega]
      exact ⟨fun h => h.elim (fun h => Or.inl h.2) Or.inr, fun h => h.elim (fun h => Or.inl ⟨by omega, h⟩) Or.inr⟩
    clear HO hc' hi0
    by_cases hle : fld u 0 ≤ fld (rec us k) 0
    · have HV : Hid (unitAtN t nx us (k + 1) = 3) := by show _ = _; rw [HE.out, if_pos (HO'.out.2 (Or.inl hle))]
      go_wp2_with fail
      go_quiet (fail)
      go_wp2
      go_ret
      exact ⟨retE (c := 3) HV.out.symm rfl, below_drewN HBw.out _⟩
    · by_cases hnx : nx ≤ fld u 0
      · have HV : Hid (unitAtN t nx us (k + 1) = 3) := by show _ = _; rw [HE.out, if_pos (HO'.out.2 (Or.inr hnx))]
        go_wp2_with fail
        go_quiet (fail)
        go_wp2
        go_ret
        exact ⟨retE (c := 3) HV.out.symm rfl, below_drewN HBw.out _⟩
      · have HV : Hid (unitAtN t nx us (k + 1) = 0) := by show _ = _; rw [HE.out, if_neg (fun h => by rcases HO'.out.1 h with h | h <;> omega)]
        go_wp2_with fail
        go_quiet (fail)
        go_wp2
        go_ret
        exact ⟨retE (c := 0) HV.out.symm rfl, below_drewN HBw.out _⟩
end Go.Proofs.Ytmnddahkbmlibaa
