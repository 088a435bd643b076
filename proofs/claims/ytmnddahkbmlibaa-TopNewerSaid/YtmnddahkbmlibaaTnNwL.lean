/- Package newer of the program: a tick begins. -/
import Derived.Deep.DeepCutAuto
import Derived.Test.YtmnddahkbmlibaaTnNwK
namespace Go.Proofs.Ytmnddahkbmlibaa
open Go.RowKit Go.Maps
def BeginN (b : Nat) (w wx : World) (p : Nat) (s : St) (f : Int → Option Value) (old : Int) : Prop := ∃ uv B, GmN b wx p uv B s f old ∧ Below b w wx
theorem begin_fin {w W w2 : World} {t g0 g1 nx : Int} {uv : Value} {es : List (List Int)} {old : Int} {b : Nat} (hs : w.heap.size ≤ W.heap.size) (hW : Below w.heap.size w W) (hB : Below W.heap.size W w2) (hb : w.heap.size ≤ b) (hr : RowU b w2 uv es) :
    BeginN w.heap.size w ((w2.alloc (.map #[] 0)).alloc (.cells #[.int .i64 t, .int .i64 g0, .int .i64 g1, .int .i64 nx, uv, .map (some w2.heap.size), .int .i64 old] 162)) (w2.heap.size + 1) ⟨t, g0, g1, nx, [], es, []⟩ (fun _ => none) old := by
  have hsm : (w2.alloc (.map #[] 0)).heap.size = w2.heap.size + 1 := by simp [go_sem]
  have hs2 : w.heap.size ≤ w2.heap.size := Nat.le_trans hs hB.size
  have h1 : Below w2.heap.size w2 (w2.alloc (.map #[] 0)) := (Below.refl _ w2).alloc (Nat.le_refl _) _
  have h2 : ∀ o : Obj, Below (w2.alloc (.map #[] 0)).heap.size (w2.alloc (.map #[] 0)) ((w2.alloc (.map #[] 0)).alloc o) := fun o => (Below.refl _ _).alloc (Nat.le_refl _) o
  have h3 : ∀ o : Obj, Below w2.heap.size w2 ((w2.alloc (.map #[] 0)).alloc o) := fun o => h1.trans ((h2 o).mono (by omega))
  refine ⟨uv, w2.heap.size, ⟨?_, row_below (own_mono hr hb) (h3 _), (Who.made w2).below (h2 _), by omega, by omega⟩, (hW.trans (hB.mono hs)).trans ((h3 _).mono hs2)⟩
  rw [← hsm]
  exact heap_alloc_new _ _
theorem begin_fin2 {w W w2 : World} {t g0 g1 nx : Int} {uv : Value} {es : List (List Int)} {old : Int} {b : Nat} (hs : w.heap.size ≤ W.heap.size) (hW : Below w.heap.size w W) (hB : Below (W.alloc (.map #[] 0)).heap.size (W.alloc (.map #[] 0)) w2) (hb : w.heap.size ≤ b) (hr : RowU b w2 uv es) :
    BeginN w.heap.size w (w2.alloc (.cells #[.int .i64 t, .int .i64 g0, .int .i64 g1, .int .i64 nx, uv, .map (some W.heap.size), .int .i64 old] 162)) w2.heap.size ⟨t, g0, g1, nx, [], es, []⟩ (fun _ => none) old := by
  have h0 : Below W.heap.size W (W.alloc (.map #[] 0)) := (Below.refl _ W).alloc (Nat.le_refl _) _
  have hB' : Below W.heap.size W w2 := h0.trans (hB.mono h0.size)
  have hs2 : w.heap.size ≤ w2.heap.size := Nat.le_trans hs hB'.size
  have h2 : ∀ o : Obj, Below w2.heap.size w2 (w2.alloc o) := fun o => (Below.refl _ _).alloc (Nat.le_refl _) o
  exact ⟨uv, W.heap.size, ⟨heap_alloc_new _ _, row_below (own_mono hr hb) (h2 _), ((Who.made W).below hB).below (h2 _), hs2, hs⟩, (hW.trans (hB'.mono hs)).trans ((h2 _).mono hs2)⟩
set_option maxRecDepth 100000 in
set_option maxHeartbeats 4000000 in
theorem beginN_calls (t g0 g1 nx : Int) (ea : Option Addr) (ec : Nat) (es : List (List Int)) (w : World) (hen : ea = none → ec = 0) (hle : es.length ≤ 1000) (hrow : Recs w ea 11 es) :
    Calls Try.prog 105 #[newerV t g0 g1 nx (.slice ea es.length ec)] w fun e w' => ∃ p uv B, e = .returned (.pointer (some ⟨p, 0, none⟩)) ∧ GmN w.heap.size w' p uv B ⟨t, g0, g1, nx, [], es, []⟩ (whoK es es.length) es.length ∧ Below w.heap.size w w' := by
  obtain ⟨W, hW⟩ : ∃ W, w.alloc (.cells (newerC t g0 g1 nx (.slice ea es.length ec)) 90) = W := ⟨_, rfl⟩
  have hbW : Below w.heap.size w W := by rw [← hW]; exact (Below.refl _ w).alloc (Nat.le_refl _) _
  have hsW : W.heap.size = w.heap.size + 1 := by rw [← hW]; simp [go_sem]
  have hX : W.heap[w.heap.size]? = some (.cells (newerC t g0 g1 nx (.slice ea es.length ec)) 90) := by rw [← hW]; exact heap_alloc_new w _
  obtain ⟨x0, x1, x2, x3, x4, _⟩ := five_cells hX
  have HC : Hid (∀ W', Recs W' ea 11 es → Calls Try.prog 116 #[newerV t g0 g1 nx (.slice ea es.length ec)] W' fun e w' => ∃ uv, e = .returned (newerV t g0 g1 nx uv) ∧ RowU W'.heap.size w' uv es ∧ Below W'.heap.size W' w') := fun W' hW' => freshN_calls t g0 g1 nx ea ec es W' hen hle hW'
  have HR := hid (hrow.below hbW)
  have HBW := hid hbW
  have HSW := hid hsW
  have HX := hid hX
  have hmm := @run_makeMap Try.prog
  clear hrow hbW hsW hX hen
  go_enter Try.func105, Try.ntmps105
  go_wp2_with fail
  go_cut [3] (fun r wx => ∃ p, r = .pointer (some ⟨p, 0, none⟩) ∧ Hid (BeginN w.heap.size w wx p ⟨t, g0, g1, nx, [], es, []⟩ (fun _ => none) es.length))
  case first =>
    clear hW
    have hsz : w.heap.size < W.heap.size := by rw [HSW.out]; omega
    have x4m : ∀ o : Obj, (W.alloc o).cell? ⟨w.heap.size, 4, none⟩ = some (.slice ea es.length ec) := fun o => (((Below.refl _ W).alloc (Nat.le_refl _) o).cell (p := ⟨w.heap.size, 4, none⟩) hsz).trans x4
    have HRm : Hid (Recs (W.alloc (.map #[] 0)).drew ea 11 es) := (HR.out.below ((Below.refl _ W).alloc (Nat.le_refl _) (.map #[] 0))).drewN 1
    have hszm : w.heap.size < (W.alloc (.map #[] 0)).heap.size := Nat.lt_of_lt_of_le hsz ((Below.refl _ W).alloc (Nat.le_refl _) (.map #[] 0)).size
    go_region_with (go_at_call 116; first
      | (refine (HC.out _ (HR.out.drewN _)).mono ?_; rintro e w2 ⟨uv, rfl, hr2, hb2⟩; have hB2 : Below W.heap.size W w2 := below_of_drewN hb2; have q4 : w2.cell? ⟨w.heap.size, 4, none⟩ = some (.slice ea es.length ec) := (hB2.cell (p := ⟨w.heap.size, 4, none⟩) hsz).trans x4; have q4m : ∀ o : Obj, (w2.alloc o).cell? ⟨w.heap.size, 4, none⟩ = some (.slice ea es.length ec) := fun o => (((Below.refl _ w2).alloc (Nat.le_refl _) o).cell (p := ⟨w.heap.size, 4, none⟩) (Nat.lt_of_lt_of_le hsz hB2.size)).trans q4; have HB2 := hid hB2; have HR2 := hid hr2; clear hB2 hr2 hb2)
      | (refine (HC.out _ HRm.out).mono ?_; rintro e w2 ⟨uv, rfl, hr2, hb2⟩; have hB2 : Below (W.alloc (.map #[] 0)).heap.size (W.alloc (.map #[] 0)) w2 := below_of_drewN (n := 1) hb2; have q4 : w2.cell? ⟨w.heap.size, 4, none⟩ = some (.slice ea es.length ec) := (hB2.cell (p := ⟨w.heap.size, 4, none⟩) hszm).trans (x4m _); have HM2 := hid hB2; have HR2m := hid hr2; clear hB2 hr2 hb2))
    all_goals
      go_wp2
      go_meet
      first
        | exact ⟨_, rfl, begin_fin (Nat.le_of_lt hsz) HBW.out HB2.out (Nat.le_of_lt hsz) HR2.out⟩
        | exact ⟨_, rfl, begin_fin2 (Nat.le_of_lt hsz) HBW.out HM2.out (Nat.le_of_lt hszm) HR2m.out⟩
  case rest =>
    obtain ⟨p, rfl, HN⟩ := hcut
    obtain ⟨uv, B, hG, hB⟩ := HN.out
    have HT := hid (tellN_calls w.heap.size p B uv _ _ _ wc hle hG hB.size)
    have HB := hid hB
    clear x0 x1 x2 x3 x4 HC HR HX hmm hG hB HN hW
    go_wp2_with fail
    refine HT.out.mono ?_
    rintro e w3 ⟨rfl, hG3, hB3⟩
    have HG3 := hid hG3
    have HB3 := hid (HB.out.trans hB3)
    clear hG3 hB3 HT
    go_wp2
    go_ret
    exact ⟨p, uv, B, rfl, HG3.out, HB3.out⟩
end Go.Proofs.Ytmnddahkbmlibaa
