/- Package elder of the program: who has a number, who stands somewhere. -/
import Derived.Test.YtakmjfchhchngaaEl2
import Derived.Shelf.Abstract
namespace Go.Proofs.Ytakmjfchhchngaa
open Go.RowKit

def isId (id : Int) (r : List Int) : Bool := fld r 0 == id
def isAt (x y : Int) (r : List Int) : Bool := fld r 3 == x && fld r 4 == y

set_option maxHeartbeats 1000000 in
theorem index1_calls (id : Int) (B : Nat) (w : World) (hB : B < w.heap.size) (hc : w.cell? ⟨B, 0, none⟩ = some (.int .i64 id)) (W : World) (u : List Int) (hb : Below w.heap.size w W) :
    Calls Try.prog 141 (#[entV u] ++ #[.pointer (some ⟨B, 0, none⟩)]) W fun e w' => e = .returned (.bool (isId id u)) ∧ Below w.heap.size w w' := by
  have hcW : W.cell? ⟨B, 0, none⟩ = some (.int .i64 id) := (hb.cell (p := ⟨B, 0, none⟩) hB).trans hc
  have hBW : B < W.heap.size := Nat.lt_of_lt_of_le hB hb.size
  have hne : B ≠ W.heap.size := by omega
  have HB := hid hb
  clear hb hc hB
  show Calls Try.prog 141 #[.agg #[.int .i64 (fld u 0), .int .i64 (fld u 1), .int .i64 (fld u 2), .int .i64 (fld u 3), .int .i64 (fld u 4), .int .i64 (fld u 5), .int .i64 (fld u 6), .int .i64 (fld u 7), .int .i64 (fld u 8), .int .i64 (fld u 9)], .pointer (some ⟨B, 0, none⟩)] W fun e w' => e = .returned (.bool (fld u 0 == id)) ∧ Below w.heap.size w w'
  cases hq : fld u 0 == id
  · go_enter Try.func141, Try.ntmps141
    go_wp2
    go_ret
    exact ⟨rfl, HB.out.alloc HB.out.size _⟩
  · go_enter Try.func141, Try.ntmps141
    go_wp2
    go_ret
    exact ⟨rfl, HB.out.alloc HB.out.size _⟩

set_option maxHeartbeats 1000000 in
theorem standing1_calls (x y : Int) (B C : Nat) (w : World) (hB : B < w.heap.size) (hC : C < w.heap.size) (hc : w.cell? ⟨B, 0, none⟩ = some (.int .i64 x)) (hd : w.cell? ⟨C, 0, none⟩ = some (.int .i64 y)) (W : World) (u : List Int) (hb : Below w.heap.size w W) :
    Calls Try.prog 147 (#[entV u] ++ #[.pointer (some ⟨B, 0, none⟩), .pointer (some ⟨C, 0, none⟩)]) W fun e w' => e = .returned (.bool (isAt x y u)) ∧ Below w.heap.size w w' := by
  have hcW : W.cell? ⟨B, 0, none⟩ = some (.int .i64 x) := (hb.cell (p := ⟨B, 0, none⟩) hB).trans hc
  have hdW : W.cell? ⟨C, 0, none⟩ = some (.int .i64 y) := (hb.cell (p := ⟨C, 0, none⟩) hC).trans hd
  have hBW : B < W.heap.size := Nat.lt_of_lt_of_le hB hb.size
  have hCW : C < W.heap.size := Nat.lt_of_lt_of_le hC hb.size
  have hne : B ≠ W.heap.size := by omega
  have hnc : C ≠ W.heap.size := by omega
  have HB := hid hb
  clear hb hc hB hd hC
  show Calls Try.prog 147 #[.agg #[.int .i64 (fld u 0), .int .i64 (fld u 1), .int .i64 (fld u 2), .int .i64 (fld u 3), .int .i64 (fld u 4), .int .i64 (fld u 5), .int .i64 (fld u 6), .int .i64 (fld u 7), .int .i64 (fld u 8), .int .i64 (fld u 9)], .pointer (some ⟨B, 0, none⟩), .pointer (some ⟨C, 0, none⟩)] W fun e w' => e = .returned (.bool (fld u 3 == x && fld u 4 == y)) ∧ Below w.heap.size w w'
  cases hq : fld u 3 == x
  · rw [Bool.false_and]
    go_enter Try.func147, Try.ntmps147
    go_wp2
    go_ret
    exact ⟨rfl, HB.out.alloc HB.out.size _⟩
  · rw [Bool.true_and]
    cases hr : fld u 4 == y
    · go_enter Try.func147, Try.ntmps147
      go_wp2
      go_ret
      exact ⟨rfl, HB.out.alloc HB.out.size _⟩
    · go_enter Try.func147, Try.ntmps147
      go_wp2
      go_ret
      exact ⟨rfl, HB.out.alloc HB.out.size _⟩

theorem cell_new (w : World) (v : Value) (t : TypeId) : (w.alloc (.cells #[v] t)).cell? ⟨w.heap.size, 0, none⟩ = some v := by simp [go_sem]

set_option maxHeartbeats 1000000 in
theorem index_calls (id : Int) (es : List (List Int)) (ea : Option Addr) (c : Nat) (w : World) (hn : es.length ≤ 1000) (hrow : Recs w ea 10 es) :
    Calls Try.prog 101 #[.slice ea es.length c, .int .i64 id] w fun e w' => e = .returned (.int .i64 (idxZ (isId id) es)) ∧ Below w.heap.size w w' := by
  have b1 : Below w.heap.size w (w.alloc (.cells #[.int .i64 id] 3)) := (Below.refl _ w).alloc (Nat.le_refl _) _
  have eg : ∀ args w, (callFunc 141 args).run Try.prog w = .ok (.enter 141 args) w := enters_of Try.func141 (by kernel_rfl) rfl
  have HC := hid (indexFunc_calls 141 #[.pointer (some ⟨w.heap.size, 0, none⟩)] eg (isId id) es ea c (w.alloc (.cells #[.int .i64 id] 3)) hn (hrow.below b1)
    (fun W u hb => index1_calls id w.heap.size _ (by simp [go_sem]) (cell_new w _ _) W u hb))
  have H1 := hid b1
  clear hrow eg b1
  go_enter Try.func101, Try.ntmps101
  go_wp2_with fail
  refine HC.out.mono ?_
  clear HC
  rintro e w' ⟨rfl, hb0⟩
  have HB := hid hb0
  clear hb0
  go_wp2
  go_ret
  exact ⟨rfl, H1.out.trans (HB.out.mono (by simp [go_sem]))⟩

set_option maxHeartbeats 1000000 in
theorem standing_calls (x y : Int) (es : List (List Int)) (ea : Option Addr) (c : Nat) (w : World) (hn : es.length ≤ 1000) (hrow : Recs w ea 10 es) :
    Calls Try.prog 121 #[.slice ea es.length c, .int .i64 x, .int .i64 y] w fun e w' => e = .returned (.int .i64 (idxZ (isAt x y) es)) ∧ Below w.heap.size w w' := by
  have b1 : Below w.heap.size w ((w.alloc (.cells #[.int .i64 x] 3)).alloc (.cells #[.int .i64 y] 3)) := ((Below.refl _ w).alloc (Nat.le_refl _) _).alloc (by simp [go_sem]) _
  have eg : ∀ args w, (callFunc 147 args).run Try.prog w = .ok (.enter 147 args) w := enters_of Try.func147 (by kernel_rfl) rfl
  have HC := hid (indexFunc_calls 147 #[.pointer (some ⟨w.heap.size, 0, none⟩), .pointer (some ⟨w.heap.size + 1, 0, none⟩)] eg (isAt x y) es ea c ((w.alloc (.cells #[.int .i64 x] 3)).alloc (.cells #[.int .i64 y] 3)) hn (hrow.below b1)
    (fun W u hb => standing1_calls x y w.heap.size (w.heap.size + 1) _ (by simp [go_sem]) (by simp [go_sem]) (by simp [go_sem]) (by simp [go_sem]) W u hb))
  have H1 := hid b1
  clear hrow eg b1
  go_enter Try.func121, Try.ntmps121
  go_wp2_with fail
  refine HC.out.mono ?_
  clear HC
  rintro e w' ⟨rfl, hb0⟩
  have HB := hid hb0
  clear hb0
  go_wp2
  go_ret
  exact ⟨rfl, H1.out.trans (HB.out.mono (by simp [go_sem]; omega))⟩
end Go.Proofs.Ytakmjfchhchngaa
