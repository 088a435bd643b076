/- A map from numbers to numbers that a call makes and fills: what it holds as a function. -/
import Derived.Test.YtakmjfchhchngaaProg
import Derived.WalkKit
import Derived.Below
import Derived.Deep.QuietTactic
import Derived.Maps.OwnOps
import Derived.Maps.Views
namespace Go.Proofs.Ytakmjfchhchngaa
open Go.RowKit Go.Maps

theorem intKey : Keyed Try.prog 3 := int_keyed Try.underlying3
theorem intZero (w : World) : (zeroValue 3).run Try.prog w = .ok (.int .i64 0) w := by kernel_rfl

/- Block B is a map of at most n entries that holds f's numbers. -/
def Counts (w : World) (B n : Nat) (f : Int → Int) : Prop :=
  ∃ D : DataW Unit, w.ownsMap Try.prog 3 (plainElem Try.prog 3) B n D ∧ IsMap D ∧ ∀ id : Int, (Lit.int .i64 id).wf = true → D.atKey (.int .i64 id) (.lit (.int .i64 0)) = .lit (.int .i64 (f id))
def updZ (f : Int → Int) (id v : Int) : Int → Int := fun j => if j = id then v else f j
theorem updZ_same (f : Int → Int) (id v : Int) : updZ f id v id = v := by simp [updZ]
theorem updZ_other (f : Int → Int) {id j : Int} (v : Int) (h : j ≠ id) : updZ f id v j = f j := by simp [updZ, h]

theorem Counts.made (w : World) : Counts (w.alloc (.map #[] 0)) w.heap.size 0 (fun _ => 0) :=
  ⟨.map [], World.ownsMap_made _ _ _ _, isMap_empty, fun _ _ => rfl⟩
theorem Counts.alloc {w : World} {B n : Nat} {f : Int → Int} (h : Counts w B n f) (o : Obj) : Counts (w.alloc o) B n f := by
  obtain ⟨D, h1, h2, h3⟩ := h
  exact ⟨D, h1.alloc o, h2, h3⟩
theorem Counts.drewN {w : World} {B n : Nat} {f : Int → Int} (h : Counts w B n f) (k : Nat) : Counts (w.drewN k) B n f := h
theorem Counts.below {w w' : World} {B n : Nat} {f : Int → Int} (h : Counts w B n f) (hb : Below w.heap.size w w') : Counts w' B n f := by
  obtain ⟨D, h1, h2, h3⟩ := h
  have hlt := h1.lt
  obtain ⟨es, clock, hh, F, hs, hD⟩ := h1
  exact ⟨D, ⟨es, clock, (hb.block B hlt).trans hh, F, hs, hD⟩, h2, h3⟩
theorem Counts.mono {w : World} {B n m : Nat} {f : Int → Int} (h : Counts w B n f) (hm : n ≤ m) : Counts w B m f := by
  obtain ⟨D, h1, h2, h3⟩ := h
  exact ⟨D, h1.mono hm, h2, h3⟩

theorem wp_look_counts (w : World) {ops : Array Oper} {rest : List Oper} {o : Oper} {a : Act} {Q : Exit → Act → World → Prop}
    (hg : o.guard = none) (m x : Operand) (hop : o.op = Op.lookup 123 m x false) (B n : Nat) (f : Int → Int)
    (hm : a.eval m = .map (some B)) (hown : Counts w B n f) (id : Int) (hx : a.eval x = .int .i64 id) (hwf : (Lit.int .i64 id).wf = true)
    (hK : wpList Try.prog ops Q rest (a.put o.dst (.int .i64 (f id))) w) : wpList Try.prog ops Q (o :: rest) a w := by
  obtain ⟨D, h1, h2, h3⟩ := hown
  refine wpList_lookup_own_int w hg m x 123 hop 3 3 .i64 intKey Try.underlying123 Try.underlying3 (intZero _) B n D hm h1 _ _ hx (keyOf_int_mk Try.underlying3 hwf) ?_
  intro c hat _
  have := (h3 id hwf).symm.trans hat
  simp only [DataW.lit.injEq, Lit.int.injEq, true_and] at this
  rw [← this]
  exact hK

theorem wp_store_counts (w : World) {ops : Array Oper} {rest : List Oper} {o : Oper} {a : Act} {Q : Exit → Act → World → Prop}
    (hg : o.guard = none) (m x v : Operand) (hop : o.op = Op.mapUpdate 123 m x v) (B n : Nat) (f : Int → Int)
    (hm : a.eval m = .map (some B)) (hown : Counts w B n f) (hn : n ≤ 100000) (id c : Int) (hx : a.eval x = .int .i64 id) (hv : a.eval v = .int .i64 c) (hwf : (Lit.int .i64 id).wf = true) (hwc : (Lit.int .i64 c).wf = true)
    (hK : ∀ w', Counts w' B (n + 1) (updZ f id c) → w.grownBy w' (some B) → wpList Try.prog ops Q rest (a.put o.dst undef) w') : wpList Try.prog ops Q (o :: rest) a w := by
  obtain ⟨D, h1, h2, h3⟩ := hown
  refine wpList_mapUpdate_own w hg m x v 123 hop 3 3 intKey Try.underlying123 _ B n D hm h1 (by unfold maxLen; omega) _ _ _ hx hv (keyOf_int_mk Try.underlying3 hwf) _ [] (plainElem_int Try.underlying3 hwc) ?_
  intro w1 hown1 hgrow1
  refine hK w1 ⟨_, hown1, h2.put _ _, fun j hj => ?_⟩ hgrow1
  by_cases e : j = id
  · rw [e, atKey_put_same h2 (by trivial), updZ_same]
  · rw [atKey_put_other (by intro h; exact e (by simpa using h)), updZ_other _ _ e]
    exact h3 j hj
theorem wf64 {a : Int} (h : -1000000 ≤ a) (g : a ≤ 1000000) : (Lit.int .i64 a).wf = true := WalkArith.wf_i64 ⟨by omega, by omega⟩
end Go.Proofs.Ytakmjfchhchngaa
