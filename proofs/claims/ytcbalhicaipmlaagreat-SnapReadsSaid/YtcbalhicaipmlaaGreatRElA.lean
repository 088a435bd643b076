/- Package elder of the program: records of ten numbers; who is at a place, who has a number. -/
import Derived.Deep.LoopGhost
import Derived.Shelf.Abstract
import Derived.Deep.DeepCutAuto
import Derived.Test.YtcbalhicaipmlaaGreatProg
import Derived.WalkKit
import Derived.WalkLawsBesides
import Derived.WalkSpells
import Derived.Handy
import Derived.Below
import Derived.Deep.RegionWith
import Derived.Deep.QuietTactic
import Derived.BigQuiet
import Derived.Test.YtcbalhicaipmlaaGreatRRulA
namespace Go.Proofs.YtcbalhicaipmlaaGreat
open Go.RowKit
abbrev entV (u : List Int) : Value := .agg #[.int .i64 (fld u 0), .int .i64 (fld u 1), .int .i64 (fld u 2), .int .i64 (fld u 3), .int .i64 (fld u 4), .int .i64 (fld u 5), .int .i64 (fld u 6), .int .i64 (fld u 7), .int .i64 (fld u 8), .int .i64 (fld u 9)]
abbrev entC (u : List Int) : Array Value := #[.int .i64 (fld u 0), .int .i64 (fld u 1), .int .i64 (fld u 2), .int .i64 (fld u 3), .int .i64 (fld u 4), .int .i64 (fld u 5), .int .i64 (fld u 6), .int .i64 (fld u 7), .int .i64 (fld u 8), .int .i64 (fld u 9)]
theorem Recs.below {w W : World} {a : Option Addr} {k : Nat} {rs : List (List Int)} (h : Recs w a k rs) (hb : Below w.heap.size w W) : Recs W a k rs := by
  rcases h with h | ⟨b, o, e, hc⟩
  · exact Or.inl h
  · exact Or.inr ⟨b, o, e, fun i hi j hj => (hb.cell (World.block_lt_of_cell? w _ (hc i hi j hj))).trans (hc i hi j hj)⟩
theorem Nums.below {w W : World} {a : Option Addr} {zs : List Int} (h : Nums w a zs) (hb : Below w.heap.size w W) : Nums W a zs := by
  rcases h with h | ⟨b, o, e, hc⟩
  · exact Or.inl h
  · exact Or.inr ⟨b, o, e, fun i hi => (hb.cell (World.block_lt_of_cell? w _ (hc i hi))).trans (hc i hi)⟩
theorem Recs.ten {w : World} {a : Option Addr} {es : List (List Int)} (h : Recs w a 10 es) {i : Nat} (hi : i < es.length) :
    ∃ b o, a = some ⟨b, o, none⟩ ∧ b < w.heap.size ∧ w.cell? ⟨b, o + i * 10, none⟩ = some (.int .i64 (fld (rec es i) 0)) ∧ w.cell? ⟨b, o + i * 10 + 1, none⟩ = some (.int .i64 (fld (rec es i) 1)) ∧ w.cell? ⟨b, o + i * 10 + 2, none⟩ = some (.int .i64 (fld (rec es i) 2)) ∧ w.cell? ⟨b, o + i * 10 + 3, none⟩ = some (.int .i64 (fld (rec es i) 3)) ∧ w.cell? ⟨b, o + i * 10 + 4, none⟩ = some (.int .i64 (fld (rec es i) 4)) ∧ w.cell? ⟨b, o + i * 10 + 5, none⟩ = some (.int .i64 (fld (rec es i) 5)) ∧ w.cell? ⟨b, o + i * 10 + 6, none⟩ = some (.int .i64 (fld (rec es i) 6)) ∧ w.cell? ⟨b, o + i * 10 + 7, none⟩ = some (.int .i64 (fld (rec es i) 7)) ∧ w.cell? ⟨b, o + i * 10 + 8, none⟩ = some (.int .i64 (fld (rec es i) 8)) ∧ w.cell? ⟨b, o + i * 10 + 9, none⟩ = some (.int .i64 (fld (rec es i) 9)) := by
  obtain ⟨b, o, e, hc⟩ := h.at hi
  exact ⟨b, o, e, World.block_lt_of_cell? w _ (hc 0 (by omega)), hc 0 (by omega), hc 1 (by omega), hc 2 (by omega), hc 3 (by omega), hc 4 (by omega), hc 5 (by omega), hc 6 (by omega), hc 7 (by omega), hc 8 (by omega), hc 9 (by omega)⟩
def idxZ (p : List Int → Bool) (rs : List (List Int)) : Int :=
  match rs.findIdx? p with
  | some i => i
  | none => -1
theorem rec_at {rs : List (List Int)} {i : Nat} (h : i < rs.length) : rec rs i = rs[i] := by simp [rec, List.getD_eq_getElem?_getD, h]
theorem idxZ_some {p : List Int → Bool} {rs : List (List Int)} {k : Nat} (hk : k < rs.length) (hn : ∀ i, i < k → p (rec rs i) = false) (he : p (rec rs k) = true) : idxZ p rs = k := by
  have h : rs.findIdx? p = some k := by
    rw [List.findIdx?_eq_some_iff_getElem]
    refine ⟨hk, by rw [← rec_at hk]; exact he, fun j hj => ?_⟩
    have h2 := hn j hj
    rw [rec_at (by omega)] at h2
    simp [h2]
  unfold idxZ
  rw [h]
theorem idxZ_none {p : List Int → Bool} {rs : List (List Int)} (hn : ∀ i, i < rs.length → p (rec rs i) = false) : idxZ p rs = -1 := by
  have h : rs.findIdx? p = none := by
    rw [List.findIdx?_eq_none_iff]
    intro r hr
    obtain ⟨i, hi, rfl⟩ := List.mem_iff_getElem.1 hr
    have h2 := hn i hi
    rw [rec_at hi] at h2
    exact h2
  unfold idxZ
  rw [h]
theorem idxZ_bd (p : List Int → Bool) (rs : List (List Int)) : -1 ≤ idxZ p rs ∧ idxZ p rs < rs.length := by
  unfold idxZ
  cases h : rs.findIdx? p with
  | none => simp only; omega
  | some i =>
    rw [List.findIdx?_eq_some_iff_getElem] at h
    obtain ⟨hi, _⟩ := h
    simp only; omega
theorem idxZ_at {p : List Int → Bool} {rs : List (List Int)} (h : 0 ≤ idxZ p rs) : (idxZ p rs).toNat < rs.length ∧ p (rec rs (idxZ p rs).toNat) = true := by
  unfold idxZ at h ⊢
  cases hf : rs.findIdx? p with
  | none => rw [hf] at h; simp at h
  | some i =>
    rw [List.findIdx?_eq_some_iff_getElem] at hf
    obtain ⟨hi, hp, _⟩ := hf
    refine ⟨by simpa using hi, ?_⟩
    simpa [rec_at hi] using hp
set_option maxHeartbeats 1000000 in
theorem within_calls (n a b : Int) (w : World) :
    Calls Tryz.prog 105 #[.int .i64 n, .int .i64 a, .int .i64 b] w fun e w' => e = .returned (.bool (decide (a ≤ n ∧ n ≤ b))) ∧ w' = w := by
  by_cases h1 : a ≤ n
  · by_cases h2 : n ≤ b
    · rw [decide_eq_true ⟨h1, h2⟩]
      go_enter Tryz.func105, Tryz.ntmps105
      go_wp2
      go_ret
      exact ⟨rfl, rfl⟩
    · rw [decide_eq_false (fun h => h2 h.2)]
      go_enter Tryz.func105, Tryz.ntmps105
      go_wp2
      go_ret
      exact ⟨rfl, rfl⟩
  · rw [decide_eq_false (fun h => h1 h.1)]
    go_enter Tryz.func105, Tryz.ntmps105
    go_wp2
    go_ret
    exact ⟨rfl, rfl⟩
set_option maxHeartbeats 1000000 in
theorem rule_elder_calls (u : List Int) (w : World) :
    Calls Tryz.prog 131 #[entV u] w fun e w' => e = .returned (.agg #[.int .i64 (Pl.eCost (fld u 2)), .int .i64 (Pl.eHP (fld u 2)), .int .i64 (Pl.eSpeed (fld u 2)), .int .i64 (Pl.eHarm (fld u 2)), .int .i64 (Pl.eRange (fld u 2)), .int .i64 (Pl.eLoad (fld u 2))]) ∧ Below w.heap.size w w' := by
  go_enter Tryz.func131, Tryz.ntmps131
  go_wp2_with fail
  refine (elder_calls (fld u 2) _).mono ?_
  rintro e w' ⟨rfl, rfl⟩
  go_wp2
  exact bodyPost_ret (v := .agg #[.int .i64 (Pl.eCost (fld u 2)), .int .i64 (Pl.eHP (fld u 2)), .int .i64 (Pl.eSpeed (fld u 2)), .int .i64 (Pl.eHarm (fld u 2)), .int .i64 (Pl.eRange (fld u 2)), .int .i64 (Pl.eLoad (fld u 2))]) (by simp [results, Tryz.results131, go_sem]) rfl ⟨rfl, by go_grown⟩
end Go.Proofs.YtcbalhicaipmlaaGreat
namespace Go.Proofs.YtcbalhicaipmlaaGreat
open Go.RowKit
theorem hid {p : Prop} (h : p) : Hid p := h
set_option maxHeartbeats 2000000 in
theorem indexFunc_calls (g : Nat) (lb : Array Value) (eg : ∀ args w, (callFunc g args).run Tryz.prog w = .ok (.enter g args) w) (p : List Int → Bool) (es : List (List Int)) (ea : Option Addr) (c : Nat) (w : World)
    (hn : es.length ≤ 1000) (hrow : Recs w ea 10 es)
    (hp : ∀ (W : World) (u : List Int), Below w.heap.size w W → Calls Tryz.prog g (#[entV u] ++ lb) W fun e w' => e = .returned (.bool (p u)) ∧ Below w.heap.size w w') :
    Calls Tryz.prog 132 #[.slice ea es.length c, .func (.func g) #[] lb] w fun e w' => e = .returned (.int .i64 (idxZ p es)) ∧ Below w.heap.size w w' := by
  have HR : Hid (Recs w ea 10 es) := hrow
  clear hrow
  go_enter Tryz.func132, Tryz.ntmps132
  go_wp2
  go_loopg [5, 8] es.length (fun gg _ s8 wr => ∃ kk : Nat, kk ≤ es.length ∧ es.length - kk ≤ gg ∧ s8 = .int .i64 kk ∧ Hid (Below w.heap.size w wr) ∧ Hid (∀ j, j < kk → p (rec es j) = false))
  case atStart => exact ⟨0, Nat.zero_le _, by omega, rfl, Below.refl _ w, fun j hj => absurd hj (Nat.not_lt_zero _)⟩
  case round =>
    obtain ⟨kk, hkk, hg, rfl, BW, A⟩ := hrel
    by_cases hlt : kk < es.length
    · have hltz : (kk : Int) < (es.length : Int) := by omega
      obtain ⟨b, o, rfl, hb, l0, l1, l2, l3, l4, l5, l6, l7, l8, l9⟩ := (HR.out.below BW.out).ten hlt
      have hcall := hp wr (rec es kk) BW.out
      clear hp HR hb
      generalize hy : rec es kk = y at l0 l1 l2 l3 l4 l5 l6 l7 l8 l9 hcall
      have B : Hid (rec es kk = y) := hy
      clear hy
      cases hq : p y with
      | true =>
        rw [hq] at hcall
        have HC := hid hcall
        clear hcall
        go_wp2_with fail
        refine HC.out.mono ?_
        clear HC
        rintro e w' ⟨rfl, hb0⟩
        have hb' := hid hb0
        clear hb0 l0 l1 l2 l3 l4 l5 l6 l7 l8 l9
        go_wp2
        go_ret
        exact ⟨retI (idxZ_some hlt A.out (by rw [B.out]; exact hq)).symm, hb'.out⟩
      | false =>
        rw [hq] at hcall
        have HC := hid hcall
        clear hcall
        go_wp2_with fail
        refine HC.out.mono ?_
        clear HC
        rintro e w' ⟨rfl, hb0⟩
        have hb' := hid hb0
        clear hb0 l0 l1 l2 l3 l4 l5 l6 l7 l8 l9
        go_wp2
        go_roundg (es.length - (kk + 1))
        case measure => omega
        case rel =>
          refine ⟨kk + 1, by omega, by omega, by go_num, hb', (show Hid _ from fun j hj => ?_)⟩
          by_cases e : j = kk
          · rw [e, B.out]; exact hq
          · exact A.out j (by omega)
    · have hltz : ¬ (kk : Int) < (es.length : Int) := by omega
      clear hp
      go_wp2
      go_ret
      exact ⟨retI (idxZ_none (fun i hi => A.out i (by omega))).symm, BW.out⟩
end Go.Proofs.YtcbalhicaipmlaaGreat
namespace Go.Proofs.YtcbalhicaipmlaaGreat
open Go.RowKit
def isId (id : Int) (r : List Int) : Bool := fld r 0 == id
def isAt (x y : Int) (r : List Int) : Bool := fld r 3 == x && fld r 4 == y
set_option maxHeartbeats 1000000 in
theorem index1_calls (id : Int) (B : Nat) (w : World) (hB : B < w.heap.size) (hc : w.cell? ⟨B, 0, none⟩ = some (.int .i64 id)) (W : World) (u : List Int) (hb : Below w.heap.size w W) :
    Calls Tryz.prog 134 (#[entV u] ++ #[.pointer (some ⟨B, 0, none⟩)]) W fun e w' => e = .returned (.bool (isId id u)) ∧ Below w.heap.size w w' := by
  have hcW : W.cell? ⟨B, 0, none⟩ = some (.int .i64 id) := (hb.cell (p := ⟨B, 0, none⟩) hB).trans hc
  have hBW : B < W.heap.size := Nat.lt_of_lt_of_le hB hb.size
  have hne : B ≠ W.heap.size := by omega
  have HB := hid hb
  clear hb hc hB
  show Calls Tryz.prog 134 #[.agg #[.int .i64 (fld u 0), .int .i64 (fld u 1), .int .i64 (fld u 2), .int .i64 (fld u 3), .int .i64 (fld u 4), .int .i64 (fld u 5), .int .i64 (fld u 6), .int .i64 (fld u 7), .int .i64 (fld u 8), .int .i64 (fld u 9)], .pointer (some ⟨B, 0, none⟩)] W fun e w' => e = .returned (.bool (fld u 0 == id)) ∧ Below w.heap.size w w'
  cases hq : fld u 0 == id
  · go_enter Tryz.func134, Tryz.ntmps134
    go_wp2
    go_ret
    exact ⟨rfl, HB.out.alloc HB.out.size _⟩
  · go_enter Tryz.func134, Tryz.ntmps134
    go_wp2
    go_ret
    exact ⟨rfl, HB.out.alloc HB.out.size _⟩
set_option maxHeartbeats 1000000 in
theorem standing1_calls (x y : Int) (B C : Nat) (w : World) (hB : B < w.heap.size) (hC : C < w.heap.size) (hc : w.cell? ⟨B, 0, none⟩ = some (.int .i64 x)) (hd : w.cell? ⟨C, 0, none⟩ = some (.int .i64 y)) (W : World) (u : List Int) (hb : Below w.heap.size w W) :
    Calls Tryz.prog 133 (#[entV u] ++ #[.pointer (some ⟨B, 0, none⟩), .pointer (some ⟨C, 0, none⟩)]) W fun e w' => e = .returned (.bool (isAt x y u)) ∧ Below w.heap.size w w' := by
  have hcW : W.cell? ⟨B, 0, none⟩ = some (.int .i64 x) := (hb.cell (p := ⟨B, 0, none⟩) hB).trans hc
  have hdW : W.cell? ⟨C, 0, none⟩ = some (.int .i64 y) := (hb.cell (p := ⟨C, 0, none⟩) hC).trans hd
  have hBW : B < W.heap.size := Nat.lt_of_lt_of_le hB hb.size
  have hCW : C < W.heap.size := Nat.lt_of_lt_of_le hC hb.size
  have hne : B ≠ W.heap.size := by omega
  have hnc : C ≠ W.heap.size := by omega
  have HB := hid hb
  clear hb hc hB hd hC
  show Calls Tryz.prog 133 #[.agg #[.int .i64 (fld u 0), .int .i64 (fld u 1), .int .i64 (fld u 2), .int .i64 (fld u 3), .int .i64 (fld u 4), .int .i64 (fld u 5), .int .i64 (fld u 6), .int .i64 (fld u 7), .int .i64 (fld u 8), .int .i64 (fld u 9)], .pointer (some ⟨B, 0, none⟩), .pointer (some ⟨C, 0, none⟩)] W fun e w' => e = .returned (.bool (fld u 3 == x && fld u 4 == y)) ∧ Below w.heap.size w w'
  cases hq : fld u 3 == x
  · rw [Bool.false_and]
    go_enter Tryz.func133, Tryz.ntmps133
    go_wp2
    go_ret
    exact ⟨rfl, HB.out.alloc HB.out.size _⟩
  · rw [Bool.true_and]
    cases hr : fld u 4 == y
    · go_enter Tryz.func133, Tryz.ntmps133
      go_wp2
      go_ret
      exact ⟨rfl, HB.out.alloc HB.out.size _⟩
    · go_enter Tryz.func133, Tryz.ntmps133
      go_wp2
      go_ret
      exact ⟨rfl, HB.out.alloc HB.out.size _⟩
theorem cell_new (w : World) (v : Value) (t : TypeId) : (w.alloc (.cells #[v] t)).cell? ⟨w.heap.size, 0, none⟩ = some v := by simp [go_sem]
set_option maxHeartbeats 1000000 in
theorem index_calls (id : Int) (es : List (List Int)) (ea : Option Addr) (c : Nat) (w : World) (hn : es.length ≤ 1000) (hrow : Recs w ea 10 es) :
    Calls Tryz.prog 111 #[.slice ea es.length c, .int .i64 id] w fun e w' => e = .returned (.int .i64 (idxZ (isId id) es)) ∧ Below w.heap.size w w' := by
  have b1 : Below w.heap.size w (w.alloc (.cells #[.int .i64 id] 3)) := (Below.refl _ w).alloc (Nat.le_refl _) _
  have eg : ∀ args w, (callFunc 134 args).run Tryz.prog w = .ok (.enter 134 args) w := enters_of Tryz.func134 (by kernel_rfl) rfl
  have HC := hid (indexFunc_calls 134 #[.pointer (some ⟨w.heap.size, 0, none⟩)] eg (isId id) es ea c (w.alloc (.cells #[.int .i64 id] 3)) hn (hrow.below b1)
    (fun W u hb => index1_calls id w.heap.size _ (by simp [go_sem]) (cell_new w _ _) W u hb))
  have H1 := hid b1
  clear hrow eg b1
  go_enter Tryz.func111, Tryz.ntmps111
  go_wp2_with fail
  refine HC.out.mono ?_
  clear HC
  rintro e w' ⟨rfl, hb0⟩
  have HB := hid hb0
  clear hb0
  go_wp2
  go_ret
  exact ⟨rfl, H1.out.trans (HB.out.mono (by simp [go_sem]))⟩
set_option maxHeartbeats 1000000 in
theorem standing_calls (x y : Int) (es : List (List Int)) (ea : Option Addr) (c : Nat) (w : World) (hn : es.length ≤ 1000) (hrow : Recs w ea 10 es) :
    Calls Tryz.prog 110 #[.slice ea es.length c, .int .i64 x, .int .i64 y] w fun e w' => e = .returned (.int .i64 (idxZ (isAt x y) es)) ∧ Below w.heap.size w w' := by
  have b1 : Below w.heap.size w ((w.alloc (.cells #[.int .i64 x] 3)).alloc (.cells #[.int .i64 y] 3)) := ((Below.refl _ w).alloc (Nat.le_refl _) _).alloc (by simp [go_sem]) _
  have eg : ∀ args w, (callFunc 133 args).run Tryz.prog w = .ok (.enter 133 args) w := enters_of Tryz.func133 (by kernel_rfl) rfl
  have HC := hid (indexFunc_calls 133 #[.pointer (some ⟨w.heap.size, 0, none⟩), .pointer (some ⟨w.heap.size + 1, 0, none⟩)] eg (isAt x y) es ea c ((w.alloc (.cells #[.int .i64 x] 3)).alloc (.cells #[.int .i64 y] 3)) hn (hrow.below b1)
    (fun W u hb => standing1_calls x y w.heap.size (w.heap.size + 1) _ (by simp [go_sem]) (by simp [go_sem]) (by simp [go_sem]) (by simp [go_sem]) W u hb))
  have H1 := hid b1
  clear hrow eg b1
  go_enter Tryz.func110, Tryz.ntmps110
  go_wp2_with fail
  refine HC.out.mono ?_
  clear HC
  rintro e w' ⟨rfl, hb0⟩
  have HB := hid hb0
  clear hb0
  go_wp2
  go_ret
  exact ⟨rfl, H1.out.trans (HB.out.mono (by simp [go_sem]; omega))⟩
end Go.Proofs.YtcbalhicaipmlaaGreat
namespace Go.Proofs.YtcbalhicaipmlaaGreat
open Go.RowKit
def inZ (n a b : Int) : Bool := decide (a ≤ n ∧ n ≤ b)
def mostZ (k : Int) : Int := if k = 4 then 100 else Pl.eHP k
def boundsE (u : List Int) : Bool := Pl.eHas (fld u 2) && (inZ (fld u 0) 1 200 && (Pl.onB (fld u 3) (fld u 4) && (inZ (fld u 5) 1 (mostZ (fld u 2)) && (inZ (fld u 6) 0 3 && inZ (fld u 9) 0 200))))
def ownerE (u : List Int) : Bool := if fld u 2 = 4 then fld u 1 == 2 else inZ (fld u 1) 0 1
def placeE (u : List Int) : Bool := if fld u 6 = 1 then Pl.onB (fld u 7) (fld u 8) && decide (0 < Pl.eSpeed (fld u 2)) else fld u 7 == 0 && fld u 8 == 0
def targetE (u : List Int) : Bool := (fld u 6 == 2 || fld u 6 == 3) == decide (0 < fld u 9)
def mineE (u t : List Int) : Bool := fld t 2 == 4 && decide (0 < Pl.eLoad (fld u 2))
def fightE (u t : List Int) : Bool := fld t 2 != 4 && (fld t 1 != fld u 1 && decide (0 < Pl.eHarm (fld u 2)))
theorem inWithin_calls (n a b : Int) (w : World) :
    Calls Tryz.prog 105 #[.int .i64 n, .int .i64 a, .int .i64 b] w fun e w' => e = .returned (.bool (inZ n a b)) ∧ w' = w := within_calls n a b w
set_option maxHeartbeats 4000000 in
theorem inBounds_calls (u : List Int) (w : World) :
    Calls Tryz.prog 106 #[entV u] w fun e w' => e = .returned (.bool (boundsE u)) ∧ Below w.heap.size w w' := by
  obtain ⟨m, hm⟩ : ∃ m, mostZ (fld u 2) = m := ⟨_, rfl⟩
  have HM : Hid (boundsE u = (Pl.eHas (fld u 2) && (inZ (fld u 0) 1 200 && (Pl.onB (fld u 3) (fld u 4) && (inZ (fld u 5) 1 m && (inZ (fld u 6) 0 3 && inZ (fld u 9) 0 200)))))) := by
    show _ = _
    unfold boundsE
    rw [hm]
  obtain ⟨bb, hbb⟩ : ∃ bb, boundsE u = bb := ⟨_, rfl⟩
  rw [hbb] at HM ⊢
  clear hbb
  have key : ((fld u 2 == 4) = true ∧ m = 100) ∨ ((fld u 2 == 4) = false ∧ m = Pl.eHP (fld u 2)) := by
    unfold mostZ at hm
    by_cases h4 : fld u 2 = 4
    · rw [if_pos h4] at hm
      exact Or.inl ⟨by simpa using h4, hm.symm⟩
    · rw [if_neg h4] at hm
      exact Or.inr ⟨by simpa using h4, hm.symm⟩
  clear hm
  rcases key with ⟨h4, rfl⟩ | ⟨h4, rfl⟩
  all_goals
    go_enter Tryz.func106, Tryz.ntmps106
    go_wp2_with fail
    refine (elder_calls (fld u 2) _).mono ?_
    rintro e w' ⟨rfl, rfl⟩
    cases h1 : Pl.eHas (fld u 2)
    · rw [h1, Bool.false_and] at HM
      go_wp2
      go_ret
      exact ⟨retB HM.out.symm, by go_grown⟩
    rw [h1, Bool.true_and] at HM
    go_wp2_with fail
    refine (inWithin_calls _ _ _ _).mono ?_
    rintro e w' ⟨rfl, rfl⟩
    cases h2 : inZ (fld u 0) 1 200
    · rw [h2, Bool.false_and] at HM
      go_wp2
      go_ret
      exact ⟨retB HM.out.symm, by go_grown⟩
    rw [h2, Bool.true_and] at HM
    go_wp2_with fail
    refine (on_calls _ _ _).mono ?_
    rintro e w' ⟨rfl, rfl⟩
    cases h3 : Pl.onB (fld u 3) (fld u 4)
    · rw [h3, Bool.false_and] at HM
      go_wp2
      go_ret
      exact ⟨retB HM.out.symm, by go_grown⟩
    rw [h3, Bool.true_and] at HM
    go_wp2_with fail
    refine (inWithin_calls _ _ _ _).mono ?_
    rintro e w' ⟨rfl, rfl⟩
    generalize h5 : inZ (fld u 5) 1 _ = b5 at HM ⊢
    clear h5
    cases b5
    · rw [Bool.false_and] at HM
      go_wp2
      go_ret
      exact ⟨retB HM.out.symm, by go_grown⟩
    rw [Bool.true_and] at HM
    go_wp2_with fail
    refine (inWithin_calls _ _ _ _).mono ?_
    rintro e w' ⟨rfl, rfl⟩
    cases h6 : inZ (fld u 6) 0 3
    · rw [h6, Bool.false_and] at HM
      go_wp2
      go_ret
      exact ⟨retB HM.out.symm, by go_grown⟩
    rw [h6, Bool.true_and] at HM
    go_wp2_with fail
    refine (inWithin_calls _ _ _ _).mono ?_
    rintro e w' ⟨rfl, rfl⟩
    go_wp2
    go_ret
    exact ⟨retB HM.out.symm, by go_grown⟩
end Go.Proofs.YtcbalhicaipmlaaGreat
namespace Go.Proofs.YtcbalhicaipmlaaGreat
open Go.RowKit
set_option maxHeartbeats 1000000 in
theorem rightOwner_calls (u : List Int) (w : World) :
    Calls Tryz.prog 107 #[entV u] w fun e w' => e = .returned (.bool (ownerE u)) ∧ Below w.heap.size w w' := by
  unfold ownerE
  by_cases h4 : fld u 2 = 4
  · rw [if_pos h4]
    have b4 : (fld u 2 == 4) = true := by simpa using h4
    clear h4
    cases h1 : fld u 1 == 2
    all_goals
      go_enter Tryz.func107, Tryz.ntmps107
      go_wp2
      go_ret
      exact ⟨rfl, by go_grown⟩
  · rw [if_neg h4]
    have b4 : (fld u 2 == 4) = false := by simpa using h4
    clear h4
    go_enter Tryz.func107, Tryz.ntmps107
    go_wp2_with fail
    refine (inWithin_calls _ _ _ _).mono ?_
    rintro e w' ⟨rfl, rfl⟩
    go_wp2
    go_ret
    exact ⟨rfl, by go_grown⟩
theorem field_rule2 (a b c d f g : Value) (w : World) : (Instr.field 203 (.agg #[a, b, c, d, f, g]) 2).run Tryz.prog w = .ok c w := by kernel_rfl
theorem field_rule3 (a b c d f g : Value) (w : World) : (Instr.field 203 (.agg #[a, b, c, d, f, g]) 3).run Tryz.prog w = .ok d w := by kernel_rfl
theorem field_rule5 (a b c d f g : Value) (w : World) : (Instr.field 203 (.agg #[a, b, c, d, f, g]) 5).run Tryz.prog w = .ok g w := by kernel_rfl
set_option maxHeartbeats 1000000 in
theorem rightPlace_calls (u : List Int) (w : World) :
    Calls Tryz.prog 108 #[entV u] w fun e w' => e = .returned (.bool (placeE u)) ∧ Below w.heap.size w w' := by
  unfold placeE
  by_cases h6 : fld u 6 = 1
  · rw [if_pos h6]
    have b6 : (fld u 6 == 1) = true := by simpa using h6
    clear h6
    go_enter Tryz.func108, Tryz.ntmps108
    go_wp2_with fail
    refine (on_calls _ _ _).mono ?_
    rintro e w' ⟨rfl, rfl⟩
    cases h1 : Pl.onB (fld u 7) (fld u 8)
    · go_wp2
      go_ret
      exact ⟨retB (by rw [h1]; rfl), by go_grown⟩
    · go_wp2_with fail
      refine (rule_elder_calls u _).mono ?_
      rintro e w1 ⟨rfl, hb⟩
      have HB := hid hb
      clear hb
      have fr := field_rule2
      by_cases hs : 0 < Pl.eSpeed (fld u 2)
      all_goals
        go_wp2
        go_ret
        exact ⟨retB (by simp [h1, hs]), ((Below.refl _ w).alloc (Nat.le_refl _) _).trans (HB.out.mono (by simp [go_sem]))⟩
  · rw [if_neg h6]
    have b6 : (fld u 6 == 1) = false := by simpa using h6
    clear h6
    cases h7 : fld u 7 == 0
    · rw [Bool.false_and]
      go_enter Tryz.func108, Tryz.ntmps108
      go_wp2
      go_ret
      exact ⟨rfl, by go_grown⟩
    · rw [Bool.true_and]
      cases h8 : fld u 8 == 0
      all_goals
        go_enter Tryz.func108, Tryz.ntmps108
        go_wp2
        go_ret
        exact ⟨rfl, by go_grown⟩
set_option maxHeartbeats 1000000 in
theorem rightTarget_calls (u : List Int) (w : World) :
    Calls Tryz.prog 109 #[entV u] w fun e w' => e = .returned (.bool (targetE u)) ∧ Below w.heap.size w w' := by
  unfold targetE
  by_cases h9 : 0 < fld u 9
  all_goals
    simp only [h9, decide_true, decide_false]
    cases h2 : fld u 6 == 2
    · rw [Bool.false_or]
      cases h3 : fld u 6 == 3
      all_goals
        go_enter Tryz.func109, Tryz.ntmps109
        go_wp2
        go_ret
        exact ⟨rfl, by go_grown⟩
    · rw [Bool.true_or]
      go_enter Tryz.func109, Tryz.ntmps109
      go_wp2
      go_ret
      exact ⟨rfl, by go_grown⟩
def mayF (u : List Int) (does : Int) (t : List Int) : Bool := if does = 3 then mineE u t else fightE u t
set_option maxHeartbeats 1000000 in
theorem mayP_calls (u t : List Int) (does : Int) (w : World) :
    Calls Tryz.prog 112 #[entV u, .int .i64 does, entV t] w fun e w' => e = .returned (.bool (mayF u does t)) ∧ Below w.heap.size w w' := by
  by_cases h3 : does = 3
  · have b3 : (does == 3) = true := by simpa using h3
    have HE : Hid (mayF u does t = mineE u t) := by show _ = _; unfold mayF; rw [if_pos h3]
    rw [HE.out]
    clear h3 HE
    unfold mineE
    cases h2 : fld t 2 == 4
    · rw [Bool.false_and]
      go_enter Tryz.func112, Tryz.ntmps112
      go_wp2
      go_ret
      exact ⟨rfl, by go_grown⟩
    · rw [Bool.true_and]
      go_enter Tryz.func112, Tryz.ntmps112
      go_wp2_with fail
      refine (rule_elder_calls u _).mono ?_
      rintro e w1 ⟨rfl, hb⟩
      have HB := hid hb
      clear hb
      have fr := field_rule5
      by_cases hs : 0 < Pl.eLoad (fld u 2)
      all_goals
        go_wp2
        go_ret
        exact ⟨by simp [hs], (((Below.refl _ w).alloc (Nat.le_refl _) _).alloc (by simp [go_sem]) _).trans (HB.out.mono (by simp [go_sem]; omega))⟩
  · have b3 : (does == 3) = false := by simpa using h3
    have HE : Hid (mayF u does t = fightE u t) := by show _ = _; unfold mayF; rw [if_neg h3]
    rw [HE.out]
    clear h3 HE
    unfold fightE
    cases h2 : fld t 2 != 4
    · rw [Bool.false_and]
      go_enter Tryz.func112, Tryz.ntmps112
      go_wp2
      go_ret
      exact ⟨rfl, by go_grown⟩
    · rw [Bool.true_and]
      cases h3 : fld t 1 != fld u 1
      · rw [Bool.false_and]
        go_enter Tryz.func112, Tryz.ntmps112
        go_wp2
        go_ret
        exact ⟨rfl, by go_grown⟩
      · rw [Bool.true_and]
        go_enter Tryz.func112, Tryz.ntmps112
        go_wp2_with fail
        refine (rule_elder_calls u _).mono ?_
        rintro e w1 ⟨rfl, hb⟩
        have HB := hid hb
        clear hb
        have fr := field_rule3
        by_cases hs : 0 < Pl.eHarm (fld u 2)
        all_goals
          go_wp2
          go_ret
          exact ⟨by simp [hs], (((Below.refl _ w).alloc (Nat.le_refl _) _).alloc (by simp [go_sem]) _).trans (HB.out.mono (by simp [go_sem]; omega))⟩
end Go.Proofs.YtcbalhicaipmlaaGreat
namespace Go.Proofs.YtcbalhicaipmlaaGreat
open Go.RowKit
def aimE (es : List (List Int)) (u : List Int) (does target : Int) : Bool :=
  if idxZ (isId target) es < 0 then false else if does = 3 then mineE u (rec es (idxZ (isId target) es).toNat) else fightE u (rec es (idxZ (isId target) es).toNat)
theorem below_drewN {B : Nat} {a w : World} (h : Below B a w) (n : Nat) : Below B a (w.drewN n) := ⟨h.os, h.tape, h.output, h.size, h.block⟩
theorem ten_new {w W : World} (u : List Int) (t : TypeId) (hb : Below (w.heap.size + 1) (w.alloc (.cells (entC u) t)) W) :
    W.cell? ⟨w.heap.size, 0, none⟩ = some (.int .i64 (fld u 0)) ∧ W.cell? ⟨w.heap.size, 1, none⟩ = some (.int .i64 (fld u 1)) ∧ W.cell? ⟨w.heap.size, 2, none⟩ = some (.int .i64 (fld u 2)) ∧ W.cell? ⟨w.heap.size, 3, none⟩ = some (.int .i64 (fld u 3)) ∧ W.cell? ⟨w.heap.size, 4, none⟩ = some (.int .i64 (fld u 4)) ∧ W.cell? ⟨w.heap.size, 5, none⟩ = some (.int .i64 (fld u 5)) ∧ W.cell? ⟨w.heap.size, 6, none⟩ = some (.int .i64 (fld u 6)) ∧ W.cell? ⟨w.heap.size, 7, none⟩ = some (.int .i64 (fld u 7)) ∧ W.cell? ⟨w.heap.size, 8, none⟩ = some (.int .i64 (fld u 8)) ∧ W.cell? ⟨w.heap.size, 9, none⟩ = some (.int .i64 (fld u 9)) := by
  have h : ∀ j, W.cell? ⟨w.heap.size, j, none⟩ = (entC u)[j]? := fun j => (hb.cell (p := ⟨w.heap.size, j, none⟩) (Nat.lt_succ_self _)).trans (World.cell?_alloc_at _ _ _ _ rfl)
  exact ⟨h 0, h 1, h 2, h 3, h 4, h 5, h 6, h 7, h 8, h 9⟩
set_option maxHeartbeats 4000000 in
theorem mayAim_calls (es : List (List Int)) (ea : Option Addr) (c : Nat) (u : List Int) (does target : Int) (w : World) (hn : es.length ≤ 1000) (hrow : Recs w ea 10 es) :
    Calls Tryz.prog 75 #[.slice ea es.length c, entV u, .int .i64 does, .int .i64 target] w fun e w' => e = .returned (.bool (aimE es u does target)) ∧ Below w.heap.size w w' := by
  have b1 : Below w.heap.size w (w.alloc (.cells (entC u) 119)) := (Below.refl _ w).alloc (Nat.le_refl _) _
  have HR := hid hrow
  have HC := hid (index_calls target es ea c (w.alloc (.cells (entC u) 119)) hn (hrow.below b1))
  have H1 := hid b1
  clear hrow b1
  go_enter Tryz.func75, Tryz.ntmps75
  go_wp2_with fail
  refine HC.out.mono ?_
  clear HC
  rintro e w1 ⟨rfl, hb0⟩
  have hs1 : (w.alloc (.cells (entC u) 119)).heap.size = w.heap.size + 1 := by simp [go_sem]
  rw [hs1] at hb0
  obtain ⟨c0, c1, c2, c3, c4, c5, c6, c7, c8, c9⟩ := ten_new u _ hb0
  have HB := hid (H1.out.trans (hb0.mono (by omega)))
  have hsz : w.heap.size + 1 ≤ w1.heap.size := by have := hb0.size; rw [hs1] at this; exact this
  clear hb0 hs1
  by_cases hi : idxZ (isId target) es < 0
  · have HE : Hid (aimE es u does target = false) := by show _ = _; unfold aimE; rw [if_pos hi]
    have hi' : decide (0 ≤ idxZ (isId target) es) = false := decide_eq_false (by omega)
    clear hi
    go_wp2_with fail
    go_quiet (fail)
    go_wp2
    go_ret
    exact ⟨retB HE.out.symm, below_drewN HB.out _⟩
  · obtain ⟨k, hk⟩ : ∃ k : Nat, idxZ (isId target) es = k := ⟨(idxZ (isId target) es).toNat, by omega⟩
    have hkl : k < es.length := by have := (idxZ_bd (isId target) es).2; omega
    have hkt : (idxZ (isId target) es).toNat = k := by omega
    obtain ⟨b, o, rfl, hb, l0, l1, l2, l3, l4, l5, l6, l7, l8, l9⟩ := (HR.out.below HB.out).ten hkl
    rw [hk]
    have hlt : (k : Int) < (es.length : Int) := by omega
    have HE : Hid (aimE es u does target = mayF u does (rec es k)) := by show _ = _; unfold aimE mayF; rw [if_neg hi, hkt]
    clear hi hk hkt HR
    go_wp2_with fail
    go_region_with (go_at_call 112; refine (mayP_calls u (rec es k) does _).mono ?_; rintro e w2 ⟨rfl, hb2⟩)
    all_goals
      have HB2 := hid hb2
      clear hb2
      go_wp2
      go_ret
      exact ⟨retB HE.out.symm, HB.out.drew.trans (HB2.out.mono (show w.heap.size ≤ w1.heap.size by omega))⟩
end Go.Proofs.YtcbalhicaipmlaaGreat
namespace Go.Proofs.YtcbalhicaipmlaaGreat
open Go.RowKit
def errV (c : Nat) : Value := if c = 0 then .nilIface else .iface 86 (.int .i64 c)
theorem assert_errno (c : Int) (w : World) : (Instr.typeAssert (.iface 86 (.int .i64 c)) 40 86 true).run Tryz.prog w = .ok (.tuple #[.int .i64 c, .bool true]) w := by kernel_rfl
set_option maxRecDepth 100000 in
set_option maxHeartbeats 400000 in
theorem same_calls (c f : Nat) (hf : f ≤ 1000) (hc : c ≤ 1000) (w : World) :
    Calls Tryz.prog 10 #[errV c, .int .i64 f] w fun e w' => e = .returned (.bool (decide (c = f))) ∧ w' = w := by
  by_cases h0 : c = 0
  · subst h0
    by_cases hf0 : f = 0
    · subst hf0
      simp only [errV, if_true, decide_true]
      go_enter Tryz.func10, Tryz.ntmps10
      go_wp2
      go_ret
      exact ⟨rfl, rfl⟩
    · have e : decide (0 = f) = false := by simp; omega
      have h1 : ((f : Int) == 0) = false := by rw [beq_eq_false_iff_ne]; omega
      rw [e]
      simp only [errV, if_true]
      clear e
      go_enter Tryz.func10, Tryz.ntmps10
      go_wp2
      go_ret
      exact ⟨rfl, rfl⟩
  · simp only [errV, if_neg h0]
    have hta := assert_errno (c : Int) w
    by_cases hf0 : f = 0
    · subst hf0
      have e : decide (c = 0) = false := by simp [h0]
      rw [e]
      clear e
      go_enter Tryz.func10, Tryz.ntmps10
      go_wp2
      go_ret
      exact ⟨rfl, rfl⟩
    · have hp : (0 : Int) < (f : Int) := by omega
      by_cases hcf : c = f
      · subst hcf
        have e : decide (c = c) = true := by simp
        rw [e]
        clear e
        go_enter Tryz.func10, Tryz.ntmps10
        go_wp2
        go_ret
        exact ⟨rfl, rfl⟩
      · have e : decide (c = f) = false := by simp [hcf]
        have h1 : ((c : Int) == (f : Int)) = false := by rw [beq_eq_false_iff_ne]; omega
        rw [e]
        clear e
        go_enter Tryz.func10, Tryz.ntmps10
        go_wp2
        go_ret
        exact ⟨rfl, rfl⟩
end Go.Proofs.YtcbalhicaipmlaaGreat
namespace Go.Proofs.YtcbalhicaipmlaaGreat
open Go.RowKit
abbrev elderV (t g0 g1 nx : Int) (fv ev : Value) : Value := .agg #[.int .i64 t, .int .i64 g0, .int .i64 g1, .int .i64 nx, fv, ev]
def stateE (t g0 g1 nx : Int) (nf ne : Nat) : Nat :=
  if inZ t 0 60 = true ∧ inZ nx 1 201 = true then if inZ g0 0 40 = true then if inZ g1 0 40 = true then if 20 < ne ∨ 200 < nf then 2 else 0 else 1 else 1 else 1
theorem gold_at0 (a b : Value) (w : World) : (Instr.index 22 (.agg #[a, b]) (.int .i64 0)).run Tryz.prog w = .ok a w := by kernel_rfl
theorem gold_at1 (a b : Value) (w : World) : (Instr.index 22 (.agg #[a, b]) (.int .i64 1)).run Tryz.prog w = .ok b w := by kernel_rfl
theorem errV_0 : errV 0 = .nilIface := rfl
theorem retE {v : Value} {c d : Nat} (h : c = d) (hv : v = errV c) : Ending.returned v = .returned (errV d) := by rw [hv, h]
set_option maxHeartbeats 4000000 in
theorem checkState_calls (t g0 g1 nx : Int) (fa ea : Option Addr) (nf fc ne ec : Nat) (w : World) :
    Calls Tryz.prog 73 #[elderV t g0 g1 nx (.slice fa nf fc) (.slice ea ne ec)] w fun e w' => e = .returned (errV (stateE t g0 g1 nx nf ne)) ∧ Below w.heap.size w w' := by
  have i0 := gold_at0
  have i1 := gold_at1
  go_enter Tryz.func73, Tryz.ntmps73
  go_wp2_with fail
  refine (inWithin_calls _ _ _ _).mono ?_
  rintro e w' ⟨rfl, rfl⟩
  cases h1 : inZ t 0 60
  · go_wp2
    go_ret
    exact ⟨retE (c := 1) (by simp [stateE, h1]) rfl, by go_grown⟩
  go_wp2_with fail
  refine (inWithin_calls _ _ _ _).mono ?_
  rintro e w' ⟨rfl, rfl⟩
  cases h2 : inZ nx 1 201
  · go_wp2
    go_ret
    exact ⟨retE (c := 1) (by simp [stateE, h2]) rfl, by go_grown⟩
  go_wp2_with fail
  refine wp_loop_rounds 3 ?_
  rw [rounds_succ]
  go_wp2_with fail
  refine (inWithin_calls _ _ _ _).mono ?_
  rintro e w' ⟨rfl, rfl⟩
  cases h3 : inZ g0 0 40
  · go_wp2
    go_ret
    exact ⟨retE (c := 1) (by simp [stateE, h3]) rfl, by go_grown⟩
  go_wp2_with fail
  rw [rounds_succ]
  go_wp2_with fail
  refine (inWithin_calls _ _ _ _).mono ?_
  rintro e w' ⟨rfl, rfl⟩
  cases h4 : inZ g1 0 40
  · go_wp2
    go_ret
    exact ⟨retE (c := 1) (by simp [stateE, h4]) rfl, by go_grown⟩
  go_wp2_with fail
  rw [rounds_succ]
  by_cases h5 : 20 < ne
  · have h5' : (20 : Int) < (ne : Int) := by omega
    go_wp2
    go_ret
    exact ⟨retE (c := 2) (by simp [stateE, h1, h2, h3, h4, h5]) rfl, by go_grown⟩
  by_cases h6 : 200 < nf
  · have h6' : (200 : Int) < (nf : Int) := by omega
    have h5' : ¬ (20 : Int) < (ne : Int) := by omega
    go_wp2
    go_ret
    exact ⟨retE (c := 2) (by simp [stateE, h1, h2, h3, h4, h5, h6]) rfl, by go_grown⟩
  have h6' : ¬ (200 : Int) < (nf : Int) := by omega
  have h5' : ¬ (20 : Int) < (ne : Int) := by omega
  go_wp2
  go_ret
  exact ⟨retE (c := 0) (by simp [stateE, h1, h2, h3, h4, h5, h6]) rfl, by go_grown⟩
end Go.Proofs.YtcbalhicaipmlaaGreat
