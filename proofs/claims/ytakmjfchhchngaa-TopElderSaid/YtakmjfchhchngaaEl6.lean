/- Package elder of the program: may one aim at a number. -/
import Derived.Test.YtakmjfchhchngaaEl5
namespace Go.Proofs.Ytakmjfchhchngaa
open Go.RowKit

def aimE (es : List (List Int)) (u : List Int) (does target : Int) : Bool :=
  if idxZ (isId target) es < 0 then false else if does = 3 then mineE u (rec es (idxZ (isId target) es).toNat) else fightE u (rec es (idxZ (isId target) es).toNat)

/- A block of ten cells that was made, in what came of it. -/
theorem ten_new {w W : World} (u : List Int) (t : TypeId) (hb : Below (w.heap.size + 1) (w.alloc (.cells (entC u) t)) W) :
    W.cell? ⟨w.heap.size, 0, none⟩ = some (.int .i64 (fld u 0)) ∧ W.cell? ⟨w.heap.size, 1, none⟩ = some (.int .i64 (fld u 1)) ∧ W.cell? ⟨w.heap.size, 2, none⟩ = some (.int .i64 (fld u 2)) ∧ W.cell? ⟨w.heap.size, 3, none⟩ = some (.int .i64 (fld u 3)) ∧ W.cell? ⟨w.heap.size, 4, none⟩ = some (.int .i64 (fld u 4)) ∧ W.cell? ⟨w.heap.size, 5, none⟩ = some (.int .i64 (fld u 5)) ∧ W.cell? ⟨w.heap.size, 6, none⟩ = some (.int .i64 (fld u 6)) ∧ W.cell? ⟨w.heap.size, 7, none⟩ = some (.int .i64 (fld u 7)) ∧ W.cell? ⟨w.heap.size, 8, none⟩ = some (.int .i64 (fld u 8)) ∧ W.cell? ⟨w.heap.size, 9, none⟩ = some (.int .i64 (fld u 9)) := by
  have h : ∀ j, W.cell? ⟨w.heap.size, j, none⟩ = (entC u)[j]? := fun j => (hb.cell (p := ⟨w.heap.size, j, none⟩) (Nat.lt_succ_self _)).trans (World.cell?_alloc_at _ _ _ _ rfl)
  exact ⟨h 0, h 1, h 2, h 3, h 4, h 5, h 6, h 7, h 8, h 9⟩

set_option maxHeartbeats 4000000 in
theorem mayAim_calls (es : List (List Int)) (ea : Option Addr) (c : Nat) (u : List Int) (does target : Int) (w : World) (hn : es.length ≤ 1000) (hrow : Recs w ea 10 es) :
    Calls Try.prog 82 #[.slice ea es.length c, entV u, .int .i64 does, .int .i64 target] w fun e w' => e = .returned (.bool (aimE es u does target)) ∧ Below w.heap.size w w' := by
  have b1 : Below w.heap.size w (w.alloc (.cells (entC u) 86)) := (Below.refl _ w).alloc (Nat.le_refl _) _
  have HR := hid hrow
  have HC := hid (index_calls target es ea c (w.alloc (.cells (entC u) 86)) hn (hrow.below b1))
  have H1 := hid b1
  clear hrow b1
  go_enter Try.func82, Try.ntmps82
  go_wp2_with fail
  refine HC.out.mono ?_
  clear HC
  rintro e w1 ⟨rfl, hb0⟩
  have hs1 : (w.alloc (.cells (entC u) 86)).heap.size = w.heap.size + 1 := by simp [go_sem]
  rw [hs1] at hb0
  obtain ⟨c0, c1, c2, c3, c4, c5, c6, c7, c8, c9⟩ := ten_new u _ hb0
  have HB := hid (H1.out.trans (hb0.mono (by omega)))
  have hsz : w.heap.size + 1 ≤ w1.heap.size := by have := hb0.size; rw [hs1] at this; exact this
  clear hb0 hs1
  by_cases hi : idxZ (isId target) es < 0
  · have HE : Hid (aimE es u does target = false) := by show _ = _; unfold aimE; rw [if_pos hi]
    go_wp2
    go_ret
    exact ⟨retB HE.out.symm, HB.out⟩
  · obtain ⟨k, hk⟩ : ∃ k : Nat, idxZ (isId target) es = k := ⟨(idxZ (isId target) es).toNat, by omega⟩
    have hkl : k < es.length := by have := (idxZ_bd (isId target) es).2; omega
    have hkt : (idxZ (isId target) es).toNat = k := by omega
    obtain ⟨b, o, rfl, hb, l0, l1, l2, l3, l4, l5, l6, l7, l8, l9⟩ := (HR.out.below HB.out).ten hkl
    rw [hk]
    have hlt : (k : Int) < (es.length : Int) := by omega
    by_cases h3 : does = 3
    · have HE : Hid (aimE es u does target = mineE u (rec es k)) := by show _ = _; unfold aimE; rw [if_neg hi, if_pos h3, hkt]
      have b3 : (does == 3) = true := by simpa using h3
      clear h3 hi hk hkt HR
      go_wp2_with fail
      go_region_with (go_at_call 122; refine (mayMine_calls u (rec es k) _).mono ?_; rintro e w2 ⟨rfl, hb2⟩)
      all_goals
        have HB2 := hid hb2
        clear hb2
        go_wp2
        go_ret
        exact ⟨retB HE.out.symm, HB.out.drew.trans (HB2.out.mono (show w.heap.size ≤ w1.heap.size by omega))⟩
    · have HE : Hid (aimE es u does target = fightE u (rec es k)) := by show _ = _; unfold aimE; rw [if_neg hi, if_neg h3, hkt]
      have b3 : (does == 3) = false := by simpa using h3
      clear h3 hi hk hkt HR
      go_wp2_with fail
      go_region_with (go_at_call 123; refine (mayFight_calls u (rec es k) _).mono ?_; rintro e w2 ⟨rfl, hb2⟩)
      all_goals
        have HB2 := hid hb2
        clear hb2
        go_wp2
        go_ret
        exact ⟨retB HE.out.symm, HB.out.drew.trans (HB2.out.mono (show w.heap.size ≤ w1.heap.size by omega))⟩
end Go.Proofs.Ytakmjfchhchngaa
