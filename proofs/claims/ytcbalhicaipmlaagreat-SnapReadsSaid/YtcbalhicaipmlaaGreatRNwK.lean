/- Package newer of the program: a state in memory of its own; a tick begins. -/
import Derived.Deep.RegionHeld3
import Derived.Deep.DeepCutAuto
import Derived.Test.YtcbalhicaipmlaaGreatRRefEA
import Derived.Test.YtcbalhicaipmlaaGreatROkA
import Derived.Test.YtcbalhicaipmlaaGreatRNwB
import Derived.Test.YtcbalhicaipmlaaGreatREqN
import Derived.Test.YtcbalhicaipmlaaGreatRInvZ
import Derived.Test.YtcbalhicaipmlaaGreatRRefBA
namespace Go.Proofs.YtcbalhicaipmlaaGreat
open Go.RowKit Go.Maps
theorem five_cells {w : World} {b : Nat} {x0 x1 x2 x3 x4 : Value} {t : TypeId} (h : w.heap[b]? = some (.cells #[x0, x1, x2, x3, x4] t)) :
    w.cell? ⟨b, 0, none⟩ = some x0 ∧ w.cell? ⟨b, 1, none⟩ = some x1 ∧ w.cell? ⟨b, 2, none⟩ = some x2 ∧ w.cell? ⟨b, 3, none⟩ = some x3 ∧ w.cell? ⟨b, 4, none⟩ = some x4 ∧ (∀ j, w.frozen? ⟨b, j, none⟩ = false) :=
  ⟨cell_of_row w b 0 _ _ _ h, cell_of_row w b 1 _ _ _ h, cell_of_row w b 2 _ _ _ h, cell_of_row w b 3 _ _ _ h, cell_of_row w b 4 _ _ _ h, fun j => frozen_of_row w b j _ _ h⟩
end Go.Proofs.YtcbalhicaipmlaaGreat
namespace Go.Proofs.YtcbalhicaipmlaaGreat
open Go.RowKit Go.Maps
def stepN (s : St) (l : List (List Int)) : St := endO (ordsN s l) (idsE s.es)
end Go.Proofs.YtcbalhicaipmlaaGreat
namespace Go.Proofs.YtcbalhicaipmlaaGreat
open Go.RowKit Go.Maps
structure InE (w : World) (s : St) (fa ea : Option Addr) (fc ec : Nat) : Prop where
  fn : fa = none → fc = 0
  en : ea = none → ec = 0
  cap : s.es.length ≤ ec
  rows : Recs w ea 10 s.es
  nums : Nums w fa s.free
  wf : ∀ i, i < s.free.length → (Lit.int .i64 (fld s.free i)).wf = true
  born : s.born = []
theorem InE.below {w w' : World} {s : St} {fa ea : Option Addr} {fc ec : Nat} (h : InE w s fa ea fc ec) (hb : Below w.heap.size w w') : InE w' s fa ea fc ec :=
  ⟨h.fn, h.en, h.cap, h.rows.below hb, h.nums.below hb, h.wf, h.born⟩
theorem errV_zero : errV 0 = .nilIface := rfl
theorem errV_some {c : Nat} (h : c ≠ 0) : errV c = .iface 86 (.int .i64 c) := by unfold errV; rw [if_neg h]
theorem elder_cells {w : World} {b : Nat} {a0 a1 a2 a3 a4 a5 : Value} (h : w.heap[b]? = some (.cells #[a0, a1, a2, a3, a4, a5] 26)) :
    w.cell? ⟨b, 0, none⟩ = some a0 ∧ w.cell? ⟨b, 1, none⟩ = some a1 ∧ w.cell? ⟨b, 2, none⟩ = some a2 ∧ w.cell? ⟨b, 3, none⟩ = some a3 ∧ w.cell? ⟨b, 4, none⟩ = some a4 ∧ w.cell? ⟨b, 5, none⟩ = some a5 :=
  ⟨cell_of_row w b 0 _ _ _ h, cell_of_row w b 1 _ _ _ h, cell_of_row w b 2 _ _ _ h, cell_of_row w b 3 _ _ _ h, cell_of_row w b 4 _ _ _ h, cell_of_row w b 5 _ _ _ h⟩
end Go.Proofs.YtcbalhicaipmlaaGreat
namespace Go.Proofs.YtcbalhicaipmlaaGreat
open Go.RowKit Go.Maps
structure InW (w : World) (s : St) (ua : Option Addr) (uc : Nat) : Prop where
  un : ua = none → uc = 0
  cap : s.es.length ≤ uc
  rows : Recs w ua 11 s.es
  fr : s.free = []
  born : s.born = []
theorem InW.below {w w' : World} {s : St} {ua : Option Addr} {uc : Nat} (h : InW w s ua uc) (hb : Below w.heap.size w w') : InW w' s ua uc := ⟨h.un, h.cap, h.rows.below hb, h.fr, h.born⟩
abbrev ordC (q : List Int) : Array Value := #[.int .i64 (fld q 0), .int .i64 (fld q 1), .int .i64 (fld q 2), .int .i64 (fld q 3), .int .i64 (fld q 4), .int .i64 (fld q 5)]
abbrev ordV (q : List Int) : Value := .agg (ordC q)
end Go.Proofs.YtcbalhicaipmlaaGreat
namespace Go.Proofs.YtcbalhicaipmlaaGreat.Cr
def poly : Nat := 3988292384
def ones : Nat := 4294967295
def step (x : Nat) : Nat := if x % 2 = 1 then (x / 2) ^^^ poly else x / 2
def stepN : Nat → Nat → Nat
  | 0, x => x
  | k + 1, x => step (stepN k x)
def feed1 (x b : Nat) : Nat := if (x % 2) ^^^ b = 1 then (x / 2) ^^^ poly else x / 2
def fed : Nat → Nat → Nat → Nat
  | 0, x, _ => x
  | k + 1, x, b => feed1 (fed k x b) (b / 2 ^ k % 2)
def feedB (x : Nat) (b : UInt8) : Nat := stepN 8 (x ^^^ b.toNat)
def crc (x : Nat) (l : List UInt8) : Nat := l.foldl feedB x
def sumN (l : List UInt8) : Nat := crc ones l ^^^ ones
theorem xor_half (a b : Nat) : (a ^^^ b) / 2 = (a / 2) ^^^ (b / 2) := Nat.xor_div_two
theorem xor_odd (a b : Nat) : (a ^^^ b) % 2 = (a % 2) ^^^ (b % 2) := by
  have h := @Nat.xor_mod_two_pow a b 1
  simpa using h
theorem key (F z : Nat) : step (F ^^^ z) = feed1 F (z % 2) ^^^ (z / 2) := by
  unfold step feed1
  rw [xor_half, xor_odd]
  split
  · rw [Nat.xor_assoc, Nat.xor_comm (z / 2) poly, ← Nat.xor_assoc]
  · rfl
theorem stepN_fed : ∀ (k x b : Nat), stepN k (x ^^^ b) = fed k x b ^^^ (b / 2 ^ k)
  | 0, x, b => by simp [stepN, fed]
  | k + 1, x, b => by
    simp only [stepN, fed]
    rw [stepN_fed k x b, key, Nat.div_div_eq_div_mul, ← Nat.pow_succ]
theorem fed_eight (x : Nat) (b : UInt8) : fed 8 x b.toNat = feedB x b := by
  unfold feedB
  rw [stepN_fed]
  have h : b.toNat / 2 ^ 8 = 0 := Nat.div_eq_of_lt (by have := b.toNat_lt; omega)
  rw [h, Nat.xor_zero]
theorem poly_lt : poly < 2 ^ 32 := by decide
theorem step_lt (x : Nat) (h : x < 2 ^ 32) : step x < 2 ^ 32 := by
  unfold step
  split
  · exact Nat.xor_lt_two_pow (by omega) poly_lt
  · omega
theorem feed1_lt (x b : Nat) (h : x < 2 ^ 32) : feed1 x b < 2 ^ 32 := by
  unfold feed1
  split
  · exact Nat.xor_lt_two_pow (by omega) poly_lt
  · omega
theorem fed_lt : ∀ (k x b : Nat), x < 2 ^ 32 → fed k x b < 2 ^ 32
  | 0, _, _, h => h
  | k + 1, x, b, h => feed1_lt _ _ (fed_lt k x b h)
theorem feedB_lt (x : Nat) (b : UInt8) (h : x < 2 ^ 32) : feedB x b < 2 ^ 32 := by
  rw [← fed_eight]; exact fed_lt _ _ _ h
theorem crc_lt : ∀ (l : List UInt8) (x : Nat), x < 2 ^ 32 → crc x l < 2 ^ 32
  | [], _, h => h
  | b :: t, x, h => crc_lt t (feedB x b) (feedB_lt x b h)
theorem ones_lt : ones < 2 ^ 32 := by decide
theorem sumN_lt (l : List UInt8) : sumN l < 2 ^ 32 := Nat.xor_lt_two_pow (crc_lt l _ ones_lt) ones_lt
theorem crc_snoc (x : Nat) (l : List UInt8) (b : UInt8) : crc x (l ++ [b]) = feedB (crc x l) b := by
  simp [crc, List.foldl_append]
theorem take_snoc (l : List UInt8) (k : Nat) (h : k < l.length) : l.take (k + 1) = l.take k ++ [l[k]] := by
  rw [List.take_succ_eq_append_getElem h]
theorem crc_take (x : Nat) (l : List UInt8) (k : Nat) (h : k < l.length) : crc x (l.take (k + 1)) = feedB (crc x (l.take k)) l[k] := by
  rw [take_snoc l k h, crc_snoc]
def bitAt (l : List UInt8) (k : Nat) : Nat := (l.getD (k / 8) 0).toNat / 2 ^ (k % 8) % 2
def st (l : List UInt8) (k : Nat) : Nat := fed (k % 8) (crc ones (l.take (k / 8))) (l.getD (k / 8) 0).toNat
theorem st_succ (l : List UInt8) (k : Nat) (h : k < 8 * l.length) : st l (k + 1) = feed1 (st l k) (bitAt l k) := by
  have hq : k / 8 < l.length := by omega
  unfold st bitAt
  by_cases h7 : k % 8 < 7
  · have e1 : (k + 1) / 8 = k / 8 := by omega
    have e2 : (k + 1) % 8 = k % 8 + 1 := by omega
    rw [e1, e2]; rfl
  · have e1 : (k + 1) / 8 = k / 8 + 1 := by omega
    have e2 : (k + 1) % 8 = 0 := by omega
    have e3 : k % 8 = 7 := by omega
    rw [e1, e2, e3, crc_take _ _ _ hq]
    have e4 : l.getD (k / 8) 0 = l[k / 8] := by simp [List.getD_eq_getElem?_getD, hq]
    rw [e4, ← fed_eight]; rfl
theorem st_end (l : List UInt8) : st l (8 * l.length) = crc ones l := by
  unfold st
  have e1 : 8 * l.length / 8 = l.length := by omega
  have e2 : 8 * l.length % 8 = 0 := by omega
  rw [e1, e2, List.take_of_length_le (Nat.le_refl _)]; rfl
end Go.Proofs.YtcbalhicaipmlaaGreat.Cr
namespace Go.Proofs.YtcbalhicaipmlaaGreat.Cr
def e (a K v j : Nat) : Nat := if a ≤ j ∧ j < a + K then v / 2 ^ (j - a) % 2 else 0
end Go.Proofs.YtcbalhicaipmlaaGreat.Cr
namespace Go.Proofs.YtcbalhicaipmlaaGreat
open Go.RowKit Go.Maps
abbrev elC (t g0 g1 nx : Int) (fv ev : Value) : Array Value := #[.int .i64 t, .int .i64 g0, .int .i64 g1, .int .i64 nx, fv, ev]
end Go.Proofs.YtcbalhicaipmlaaGreat
namespace Go.Proofs.YtcbalhicaipmlaaGreat
open Go.RowKit
set_option maxRecDepth 100000 in
set_option maxHeartbeats 8000000 in
theorem one_bound4 (p : Nat) (nw : Bool) (tick : Int) (u : List Int) (w : World) (h0 : w.cell? ⟨p, 0, none⟩ = some (.bool nw)) (h1 : w.cell? ⟨p, 1, none⟩ = some (.int .i64 tick)) (hp : p < w.heap.size) (hk4 : (fld u 2 == 4) = true) (hMO : mostR nw (fld u 2) = 100) (hbo : boundR nw tick u = true) :
    Calls Tryz.prog 70 #[.pointer (some ⟨p, 0, none⟩), unitV u] w fun e w' => e = .returned (.int .i64 (1)) ∧ Below w.heap.size w w' := by
  have HBO := hid hbo
  have HMO := hid hMO
  clear hbo hMO
  obtain ⟨W, hW⟩ : ∃ W, w.alloc (.cells (unitC u) 121) = W := ⟨_, rfl⟩
  have hbW : Below w.heap.size w W := by rw [← hW]; exact (Below.refl _ w).alloc (Nat.le_refl _) _
  have hhW : W.heap[w.heap.size]? = some (.cells (unitC u) 121) := by rw [← hW]; exact heap_alloc_new _ _
  have hsW : W.heap.size = w.heap.size + 1 := by rw [← hW]; simp [go_sem]
  have d0 : W.cell? ⟨p, 0, none⟩ = some (.bool nw) := (hbW.cell (p := ⟨p, 0, none⟩) hp).trans h0
  have HBW := hid hbW
  have HHW := hid hhW
  have HSW := hid hsW
  have KX : ∀ j w', Below W.heap.size W w' → w'.cell? ⟨w.heap.size, j, none⟩ = (unitC u)[j]? := fun j w' h => cell_of_row w' _ j _ _ _ ((h.block _ (by omega)).trans hhW)
  have K0 : ∀ w', Below W.heap.size W w' → w'.cell? ⟨p, 0, none⟩ = some (.bool nw) := fun w' h => (h.cell (p := ⟨p, 0, none⟩) (show p < W.heap.size by omega)).trans d0
  have K1 : ∀ w', Below W.heap.size W w' → w'.cell? ⟨p, 1, none⟩ = some (.int .i64 tick) := fun w' h => (h.cell (p := ⟨p, 1, none⟩) (show p < W.heap.size by omega)).trans ((hbW.cell (p := ⟨p, 1, none⟩) hp).trans h1)
  have x2 : ∀ w', Below W.heap.size W w' → w'.cell? ⟨w.heap.size, 2, none⟩ = some (.int .i64 (fld u 2)) := KX 2
  have HKX := hid KX
  have HK1 := hid K1
  clear hbW hhW hsW h0 h1 KX K1
  go_enter Tryz.func70, Tryz.ntmps70
  go_wp2_with fail
  refine (bounds_calls p nw _ d0).mono ?_
  rintro e w1 ⟨rfl, rfl⟩
  go_wp2_with fail
  clear d0 hW
  go_cut [7, 8] (fun r s wx => ∃ b, r = .pointer (some ⟨b, 0, none⟩) ∧ s = .bool (hasB nw (fld u 2)) ∧ Hid (wx.heap[b]? = some (.cells (ruleCR nw (fld u 2)) 124) ∧ Below w1.heap.size w1 wx))
  case first =>
    go_region_held3 (fun w' => Below w1.heap.size w1 w') (first | (rw [six6_nest]; exact below_six6 (by assumption) (Nat.le_refl _)) | with_reducible exact (Below.refl _ _).drew | with_reducible exact HB2.out | exact Below.alloc (by assumption) (Below.size (by assumption)) _)
      (first
        | (go_at_call 103; refine (ruleB_calls nw (fld u 2) _).mono ?_; rintro e w2 ⟨rfl, hb2⟩; have hq : Box6 w2 w1.heap.size := Box6.below (Box6.new w1.drew) hb2; have HB2 : Hid (Below w1.heap.size w1 w2) := Below.trans (by assumption) (hb2.mono (Below.size (by assumption))); have HQ := hid hq; obtain ⟨q0, q1, q2, q3, q4, q5, qf⟩ := hq.zero; clear hb2 hq)
        | (go_at_call 103; refine (ruleB_calls nw (fld u 2) _).mono ?_; rintro e w2 ⟨rfl, hb2⟩; have HB2 : Hid (Below w1.heap.size w1 w2) := Below.trans (by assumption) (hb2.mono (Below.size (by assumption))); clear hb2))
    all_goals
      go_wp2
      go_meet
      first
        | exact ⟨_, rfl, rfl, Box6.fill HQ.out _ _ _ _ _ _, below_six6 HB2.out (Nat.le_refl _)⟩
        | exact ⟨_, rfl, rfl, heap_alloc_new _ _, HB2.out.alloc HB2.out.size _⟩
  case rest =>
    obtain ⟨b, rfl, rfl, HM⟩ := hcut
    have HBc := hid HM.out.2
    have r1 : wc.cell? ⟨b, 1, none⟩ = some (.int .i64 (fld (ruleL nw (fld u 2)) 1)) := cell_of_row wc _ 1 _ _ _ HM.out.1
    have r2 : wc.cell? ⟨b, 2, none⟩ = some (.int .i64 (fld (ruleL nw (fld u 2)) 2)) := cell_of_row wc _ 2 _ _ _ HM.out.1
    have x0 : wc.cell? ⟨w.heap.size, 0, none⟩ = some (.int .i64 (fld u 0)) := HKX.out 0 wc HBc.out
    have x1 : wc.cell? ⟨w.heap.size, 1, none⟩ = some (.int .i64 (fld u 1)) := HKX.out 1 wc HBc.out
    have y2 : wc.cell? ⟨w.heap.size, 2, none⟩ = some (.int .i64 (fld u 2)) := HKX.out 2 wc HBc.out
    have x3 : wc.cell? ⟨w.heap.size, 3, none⟩ = some (.int .i64 (fld u 3)) := HKX.out 3 wc HBc.out
    have x4 : wc.cell? ⟨w.heap.size, 4, none⟩ = some (.int .i64 (fld u 4)) := HKX.out 4 wc HBc.out
    have x5 : wc.cell? ⟨w.heap.size, 5, none⟩ = some (.int .i64 (fld u 5)) := HKX.out 5 wc HBc.out
    have x6 : wc.cell? ⟨w.heap.size, 6, none⟩ = some (.int .i64 (fld u 6)) := HKX.out 6 wc HBc.out
    have x7 : wc.cell? ⟨w.heap.size, 7, none⟩ = some (.int .i64 (fld u 7)) := HKX.out 7 wc HBc.out
    have x8 : wc.cell? ⟨w.heap.size, 8, none⟩ = some (.int .i64 (fld u 8)) := HKX.out 8 wc HBc.out
    have x9 : wc.cell? ⟨w.heap.size, 9, none⟩ = some (.int .i64 (fld u 9)) := HKX.out 9 wc HBc.out
    have x10 : wc.cell? ⟨w.heap.size, 10, none⟩ = some (.int .i64 (fld u 10)) := HKX.out 10 wc HBc.out
    have k0 := K0 wc HBc.out
    have k1 := HK1.out wc HBc.out
    have HBF : Hid (Below w.heap.size w wc) := HBW.out.trans (HBc.out.mono (by rw [HSW.out]; omega))
    clear HM HBc HKX HK1 K0 x2
    go_wp2_with fail
    refine (refOn_calls (fld u 3) (fld u 4) _).mono ?_
    rintro e w5 ⟨rfl, rfl⟩
    go_wp2_with fail
    clear r1
    simp only [List.append_eq, List.cons_append, List.nil_append]
    go_cut [105] (fun r wx => r = .bool true ∧ Hid (∃ n, wx = w5.drewN n))
    case first =>
      have hlast : (nw = false ∧ sinceB nw tick u = false) ∨ (nw = true ∧ (decide (fld u 10 < 0) = true ∧ sinceB nw tick u = true)) ∨ (nw = true ∧ decide (fld u 10 < 0) = false ∧ decide (tick < fld u 10) = true ∧ sinceB nw tick u = true) ∨ (nw = true ∧ decide (fld u 10 < 0) = false ∧ decide (tick < fld u 10) = false ∧ sinceB nw tick u = false) := since_ways nw tick u
      have hch := tf (!hasB nw (fld u 2)) (tf (decide (fld u 0 < 1)) (tf (decide (topZ nw < fld u 0)) (tf (!Pl.onB (fld u 3) (fld u 4)) (tf (decide (fld u 5 < 1)) (tf (decide ((mostR nw (fld u 2)) < fld u 5)) (tf (decide (fld u 6 < 0)) (tf (decide (3 < fld u 6)) (tf (decide (fld u 9 < 0)) (tf (decide (topZ nw < fld u 9)) hlast)))))))))
      rw [HMO.out] at hch
      have hbv := HBO.out
      unfold boundR at hbv
      rw [HMO.out] at hbv
      clear hlast
      rcases hch with h1 | ⟨h1, h2 | ⟨h2, h3 | ⟨h3, h4 | ⟨h4, h5 | ⟨h5, h6 | ⟨h6, h7 | ⟨h7, h8 | ⟨h8, h9 | ⟨h9, h10 | ⟨h10, hl⟩⟩⟩⟩⟩⟩⟩⟩⟩⟩
      · clear hbv
        go_quiet (fail)
        go_wp2
        go_meet
        exact ⟨rfl, _, rfl⟩
      · clear hbv
        go_quiet (fail)
        go_wp2
        go_meet
        exact ⟨rfl, _, rfl⟩
      · clear hbv
        go_quiet (fail)
        go_wp2
        go_meet
        exact ⟨rfl, _, rfl⟩
      · clear hbv
        go_quiet (fail)
        go_wp2
        go_meet
        exact ⟨rfl, _, rfl⟩
      · clear hbv
        go_quiet (fail)
        go_wp2
        go_meet
        exact ⟨rfl, _, rfl⟩
      · clear hbv
        go_quiet (fail)
        go_wp2
        go_meet
        exact ⟨rfl, _, rfl⟩
      · clear hbv
        go_quiet (fail)
        go_wp2
        go_meet
        exact ⟨rfl, _, rfl⟩
      · clear hbv
        go_quiet (fail)
        go_wp2
        go_meet
        exact ⟨rfl, _, rfl⟩
      · clear hbv
        go_quiet (fail)
        go_wp2
        go_meet
        exact ⟨rfl, _, rfl⟩
      · clear hbv
        go_quiet (fail)
        go_wp2
        go_meet
        exact ⟨rfl, _, rfl⟩
      · simp only [h1, h2, h3, h4, h5, h6, h7, h8, h9, h10, Bool.false_or] at hbv
        rcases hl with ⟨rfl, hsb⟩ | ⟨rfl, hs1, hsb⟩ | ⟨rfl, hs1, hs2, hsb⟩ | ⟨rfl, hs1, hs2, hsb⟩
        · rw [hsb] at hbv
          cases hbv
        · clear hbv hsb
          go_quiet (fail)
          go_wp2
          go_meet
          exact ⟨rfl, _, rfl⟩
        · clear hbv hsb
          go_quiet (fail)
          go_wp2
          go_meet
          exact ⟨rfl, _, rfl⟩
        · rw [hsb] at hbv
          cases hbv
    case rest =>
      obtain ⟨rfl, HX⟩ := hcut
      obtain ⟨nq, rfl⟩ := HX.out
      have HBG : Hid (Below w.heap.size w (w5.drewN nq)) := below_drewN HBF.out nq
      clear HX HBF HMO k0 k1 HBO
      go_wp2
      go_ret
      exact ⟨rfl, HBG.out⟩
end Go.Proofs.YtcbalhicaipmlaaGreat
