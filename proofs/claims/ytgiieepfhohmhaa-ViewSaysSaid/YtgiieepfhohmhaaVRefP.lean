/- The reference's game: its state, as one of the elder game. -/
import Derived.Deep.DeepCutAuto
import Derived.Test.YtgiieepfhohmhaaVGiA
import Derived.Test.YtgiieepfhohmhaaVOkA
import Derived.Test.YtgiieepfhohmhaaVSt
import Derived.Test.YtgiieepfhohmhaaVHdA
namespace Go.Proofs.Ytgiieepfhohmhaa
open Go.RowKit Go.Maps
abbrev elC (t g0 g1 nx : Int) (fv ev : Value) : Array Value := #[.int .i64 t, .int .i64 g0, .int .i64 g1, .int .i64 nx, fv, ev]
theorem elder_set5 {w : World} {b : Nat} {t g0 g1 nx : Int} {fv ev : Value} (h : w.heap[b]? = some (.cells (elC t g0 g1 nx fv ev) 60)) (v : Value) : (w.setCell ⟨b, 5, none⟩ v).heap[b]? = some (.cells (elC t g0 g1 nx fv v) 60) := heap_setCell_same w b 5 _ _ v h
end Go.Proofs.Ytgiieepfhohmhaa
namespace Go.Proofs.Ytgiieepfhohmhaa
open Go.RowKit Go.Maps
theorem Gr.bornK {base : Nat} {w w9 : World} {p : Nat} {uv fv bv : Value} {nw : Bool} {s : St} (h : Gr base w p uv fv bv nw s) (id : Int) (hg9 : (w.alloc (.cells #[.int .i64 id] 3)).grownBy w9 bv.ownBlock) :
    w9.heap[p]? = some (.cells (refC nw s fv uv bv) 147) ∧ RowU base w9 uv s.es ∧ NRow base w9 fv s.free := by
  have h' := h.below ((Below.refl _ w).alloc (Nat.le_refl _) (.cells #[.int .i64 id] 3))
  exact ⟨(hg9.block p h'.lt (fun e => row_ne h'.br h'.hp (by decide) e.symm)).trans h'.hp, World.ownsRow.kept h'.er hg9 (row_row_ne h'.er h'.br (by decide)), World.ownsRow.kept h'.fr hg9 h'.fb⟩
theorem Gr.born {base : Nat} {w w9 : World} {p : Nat} {uv fv bv v9 : Value} {nw : Bool} {s : St} (h : Gr base w p uv fv bv nw s) (hbs : base ≤ w.heap.size) (id : Int) (hr9 : NRow base w9 v9 (s.born ++ [id])) (hg9 : (w.alloc (.cells #[.int .i64 id] 3)).grownBy w9 bv.ownBlock)
    (hl9 : v9.ownBlock = bv.ownBlock ∨ v9.ownBlock = some (w.alloc (.cells #[.int .i64 id] 3)).heap.size) :
    GrE base (w9.setCell ⟨p, 7, none⟩ v9) p nw { s with born := s.born ++ [id] } ∧ Below base w (w9.setCell ⟨p, 7, none⟩ v9) ∧ Fr w (w9.setCell ⟨p, 7, none⟩ v9) p := by
  obtain ⟨kp, ke, kf⟩ := h.bornK id hg9
  have hfb : fv.ownBlock = none ∨ fv.ownBlock ≠ v9.ownBlock := by
    rcases hl9 with e | e
    · rw [e]; exact h.fb
    · refine Or.inr fun e2 => ?_
      have h2 := (World.ownsRow.lt h.fr _ (e2.trans e)).2
      simp [go_sem] at h2
      omega
  have ho : ∀ k, k ≠ p → (w9.setCell ⟨p, 7, none⟩ v9).heap[k]? = w9.heap[k]? := fun k hk => heap_setCell_other w9 ⟨p, 7, none⟩ k v9 (fun e => hk e)
  have hG9 : Gr base (w9.setCell ⟨p, 7, none⟩ v9) p uv fv v9 nw { s with born := s.born ++ [id] } := by
    refine ⟨?_, ?_, ?_, ?_, h.bp, hfb⟩
    · exact heap_setCell_same w9 p 7 _ _ v9 kp
    · exact row_other ke fun g hg => ho g fun e => row_ne ke kp (by decide) (by rw [hg, e])
    · exact row_other kf fun g hg => ho g fun e => row_ne kf kp (by decide) (by rw [hg, e])
    · exact row_other hr9 fun g hg => ho g fun e => row_ne hr9 kp (by decide) (by rw [hg, e])
  refine ⟨⟨_, _, _, hG9⟩, ((((Below.refl _ w).alloc hbs _).grown hg9 (by simp [go_sem]; omega) (fun k hk => (World.ownsRow.lt h.br k hk).1))).setCell (p := ⟨p, 7, none⟩) h.bp _, h.frame hG9 ?_ ?_ (fun _ hk => Or.inl hk) (fun _ hk => Or.inl hk) ?_⟩
  · have h1 := hg9.size
    simp [go_sem] at h1 ⊢
    omega
  · intro k hk hkp _ _ hkb
    rw [ho k hkp, hg9.block k (by simp [go_sem]; omega) (fun e => hkb e.symm), heap_alloc_old _ _ hk]
  · intro k hk
    rcases hl9 with e | e
    · exact Or.inl (e.symm.trans hk)
    · have h2 := e.symm.trans hk
      simp only [Option.some.injEq] at h2
      simp [go_sem] at h2
      exact Or.inr (by omega)
theorem Gr.take {base : Nat} {w w9 : World} {p : Nat} {uv fv bv v9 : Value} {nw : Bool} {s : St} (h : Gr base w p uv fv bv nw s) (hbs : base ≤ w.heap.size) (fr : List Int) (hr9 : NRow base w9 v9 fr) (hg9 : w.grownBy w9 none) (hl9 : v9.ownBlock = none ∨ v9.ownBlock = some w.heap.size) :
    Gr base (w9.setCell ⟨p, 5, none⟩ v9) p uv v9 bv nw { s with free := fr } ∧ Below base w (w9.setCell ⟨p, 5, none⟩ v9) ∧ Below w.heap.size w w9 ∧ Fr w (w9.setCell ⟨p, 5, none⟩ v9) p := by
  have hb : Below w.heap.size w w9 := (Below.refl _ w).grown hg9 (Nat.le_refl _) (fun k hk => by cases hk)
  have h' := h.below hb
  have hfb : v9.ownBlock = none ∨ v9.ownBlock ≠ bv.ownBlock := by
    rcases hl9 with e | e
    · exact Or.inl e
    · refine Or.inr fun e2 => ?_
      have h2 := (World.ownsRow.lt h.br _ (e2.symm.trans e)).2
      omega
  have hG5 := h'.pset 5 v9 (s' := { s with free := fr }) rfl h'.er hr9 h'.br hfb
  refine ⟨hG5, (hb.mono hbs).setCell (p := ⟨p, 5, none⟩) h.bp _, hb, h.frame hG5 (by have := hb.size; simp; omega) (fun k hk hkp _ _ _ => ?_) (fun _ hk => Or.inl hk) (fun k hk => Or.inr ?_) (fun _ hk => Or.inl hk)⟩
  · rw [heap_setCell_other w9 ⟨p, 5, none⟩ k v9 (fun e => hkp e), hb.block k hk]
  · rcases hl9 with e | e
    · rw [e] at hk; cases hk
    · have h2 := e.symm.trans hk
      simp only [Option.some.injEq] at h2
      omega
end Go.Proofs.Ytgiieepfhohmhaa
namespace Go.Proofs.Ytgiieepfhohmhaa
open Go.RowKit Go.Maps
theorem RowU.nil {b n c : Nat} {w : World} {a : Option Addr} {us : List (List Int)} (h : RowU b w (.slice a n c) us) : a = none → c = 0 := by
  rcases h.2 with ⟨h', _⟩ | ⟨g', cap', cur, h', _⟩
  · intro _; cases h'; rfl
  · intro e; cases h'; cases e
end Go.Proofs.Ytgiieepfhohmhaa
namespace Go.Proofs.Ytgiieepfhohmhaa
open Go.RowKit Go.Maps
theorem Gr.other {base : Nat} {w : World} {p : Nat} {uv fv bv : Value} {nw : Bool} {s : St} (h : Gr base w p uv fv bv nw s) {q : Nat} (ha : Apart w p q) (j : Nat) (v : Value) : Gr base (w.setCell ⟨q, j, none⟩ v) p uv fv bv nw s := by
  obtain ⟨a1, a2, a3, a4⟩ := h.apart.1 ha
  have ho : ∀ k, k ≠ q → (w.setCell ⟨q, j, none⟩ v).heap[k]? = w.heap[k]? := fun k hk => heap_setCell_other w ⟨q, j, none⟩ k v (fun e => hk e)
  exact ⟨(ho p (fun e => a1 e.symm)).trans h.hp, row_other h.er fun g hg => ho g fun e => a2 (by rw [hg, e]), row_other h.fr fun g hg => ho g fun e => a3 (by rw [hg, e]), row_other h.br fun g hg => ho g fun e => a4 (by rw [hg, e]), h.bp, h.fb⟩
end Go.Proofs.Ytgiieepfhohmhaa
