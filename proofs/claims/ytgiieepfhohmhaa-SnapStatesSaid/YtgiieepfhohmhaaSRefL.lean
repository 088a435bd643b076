/- The reference's game: one builds. -/
import Derived.Test.YtgiieepfhohmhaaSHdA
import Derived.Test.YtgiieepfhohmhaaSOkA
namespace Go.Proofs.Ytgiieepfhohmhaa
open Go.RowKit Go.Maps
def takeR (nw : Bool) (s : St) : Option (Int × St) :=
  if s.free = [] then (if topZ nw < s.nx then none else some (s.nx, { s with nx := s.nx + 1 })) else some (fld s.free (s.free.length - 1), { s with free := s.free.take (s.free.length - 1) })
def newR (nw : Bool) (t id o k x y : Int) : List Int := [id, o, k, x, y, fld (ruleL nw k) 1, 0, 0, 0, 0, if nw = true then t else 0]
def lateR (nw : Bool) (s : St) (u : List Int) (k x y : Int) : Bool := standsB x y s.es || (decide (1 < Pl.farZ (fld u 3) (fld u 4) x y) || (decide (goldOf s (fld u 1) < fld (ruleL nw k) 0) || ((s.es.length : Int) == 20)))
def soonR (nw : Bool) (u : List Int) (k x y : Int) : Bool := !hasB nw k || (k == 4 || (fld u 2 != 1 || !Pl.onB x y))
def finR (nw : Bool) (t : Int) (u : List Int) (k x y id : Int) (s1 : St) : St := { payS s1 (fld u 1) (fld (ruleL nw k) 0) with es := putR (newR nw t id (fld u 1) k x y) s1.es, born := s1.born ++ [id] }
def doneR (nw : Bool) (s : St) (u : List Int) (k x y : Int) : St :=
  match takeR nw s with
  | none => s
  | some (id, s1) => finR nw s.t u k x y id s1
def buildR (nw : Bool) (s : St) (u : List Int) (k x y : Int) : St :=
  if soonR nw u k x y = true then s else if lateR nw s u k x y = true then s else doneR nw s u k x y
theorem Gr.bornK {base : Nat} {w w9 : World} {p : Nat} {uv fv bv : Value} {nw : Bool} {s : St} (h : Gr base w p uv fv bv nw s) (id : Int) (hg9 : (w.alloc (.cells #[.int .i64 id] 3)).grownBy w9 bv.ownBlock) :
    w9.heap[p]? = some (.cells (refC nw s fv uv bv) 147) ∧ RowU base w9 uv s.es ∧ NRow base w9 fv s.free := by
  have h' := h.below ((Below.refl _ w).alloc (Nat.le_refl _) (.cells #[.int .i64 id] 3))
  exact ⟨(hg9.block p h'.lt (fun e => row_ne h'.br h'.hp (by decide) e.symm)).trans h'.hp, World.ownsRow.kept h'.er hg9 (row_row_ne h'.er h'.br (by decide)), World.ownsRow.kept h'.fr hg9 h'.fb⟩
theorem Gr.born {base : Nat} {w w9 : World} {p : Nat} {uv fv bv v9 : Value} {nw : Bool} {s : St} (h : Gr base w p uv fv bv nw s) (hbs : base ≤ w.heap.size) (id : Int) (hr9 : NRow base w9 v9 (s.born ++ [id])) (hg9 : (w.alloc (.cells #[.int .i64 id] 3)).grownBy w9 bv.ownBlock)
    (hl9 : v9.ownBlock = bv.ownBlock ∨ v9.ownBlock = some (w.alloc (.cells #[.int .i64 id] 3)).heap.size) :
    GrE base (w9.setCell ⟨p, 7, none⟩ v9) p nw { s with born := s.born ++ [id] } ∧ Below base w (w9.setCell ⟨p, 7, none⟩ v9) ∧ Fr w (w9.setCell ⟨p, 7, none⟩ v9) p := by
  obtain ⟨kp, ke, kf⟩ := h.bornK id hg9
  have hfb : fv.ownBlock = none ∨ fv.ownBlock ≠ v9.ownBlock := by
    rcases hl9 with e | e
    · rw [e]; exact h.fb
    · refine Or.inr fun e2 => ?_
      have h2 := (World.ownsRow.lt h.fr _ (e2.trans e)).2
      simp [go_sem] at h2
      omega
  have ho : ∀ k, k ≠ p → (w9.setCell ⟨p, 7, none⟩ v9).heap[k]? = w9.heap[k]? := fun k hk => heap_setCell_other w9 ⟨p, 7, none⟩ k v9 (fun e => hk e)
  have hG9 : Gr base (w9.setCell ⟨p, 7, none⟩ v9) p uv fv v9 nw { s with born := s.born ++ [id] } := by
    refine ⟨?_, ?_, ?_, ?_, h.bp, hfb⟩
    · exact heap_setCell_same w9 p 7 _ _ v9 kp
    · exact row_other ke fun g hg => ho g fun e => row_ne ke kp (by decide) (by rw [hg, e])
    · exact row_other kf fun g hg => ho g fun e => row_ne kf kp (by decide) (by rw [hg, e])
    · exact row_other hr9 fun g hg => ho g fun e => row_ne hr9 kp (by decide) (by rw [hg, e])
  refine ⟨⟨_, _, _, hG9⟩, ((((Below.refl _ w).alloc hbs _).grown hg9 (by simp [go_sem]; omega) (fun k hk => (World.ownsRow.lt h.br k hk).1))).setCell (p := ⟨p, 7, none⟩) h.bp _, h.frame hG9 ?_ ?_ (fun _ hk => Or.inl hk) (fun _ hk => Or.inl hk) ?_⟩
  · have h1 := hg9.size
    simp [go_sem] at h1 ⊢
    omega
  · intro k hk hkp _ _ hkb
    rw [ho k hkp, hg9.block k (by simp [go_sem]; omega) (fun e => hkb e.symm), heap_alloc_old _ _ hk]
  · intro k hk
    rcases hl9 with e | e
    · exact Or.inl (e.symm.trans hk)
    · have h2 := e.symm.trans hk
      simp only [Option.some.injEq] at h2
      simp [go_sem] at h2
      exact Or.inr (by omega)
theorem Gr.take {base : Nat} {w w9 : World} {p : Nat} {uv fv bv v9 : Value} {nw : Bool} {s : St} (h : Gr base w p uv fv bv nw s) (hbs : base ≤ w.heap.size) (fr : List Int) (hr9 : NRow base w9 v9 fr) (hg9 : w.grownBy w9 none) (hl9 : v9.ownBlock = none ∨ v9.ownBlock = some w.heap.size) :
    Gr base (w9.setCell ⟨p, 5, none⟩ v9) p uv v9 bv nw { s with free := fr } ∧ Below base w (w9.setCell ⟨p, 5, none⟩ v9) ∧ Below w.heap.size w w9 ∧ Fr w (w9.setCell ⟨p, 5, none⟩ v9) p := by
  have hb : Below w.heap.size w w9 := (Below.refl _ w).grown hg9 (Nat.le_refl _) (fun k hk => by cases hk)
  have h' := h.below hb
  have hfb : v9.ownBlock = none ∨ v9.ownBlock ≠ bv.ownBlock := by
    rcases hl9 with e | e
    · exact Or.inl e
    · refine Or.inr fun e2 => ?_
      have h2 := (World.ownsRow.lt h.br _ (e2.symm.trans e)).2
      omega
  have hG5 := h'.pset 5 v9 (s' := { s with free := fr }) rfl h'.er hr9 h'.br hfb
  refine ⟨hG5, (hb.mono hbs).setCell (p := ⟨p, 5, none⟩) h.bp _, hb, h.frame hG5 (by have := hb.size; simp; omega) (fun k hk hkp _ _ _ => ?_) (fun _ hk => Or.inl hk) (fun k hk => Or.inr ?_) (fun _ hk => Or.inl hk)⟩
  · rw [heap_setCell_other w9 ⟨p, 5, none⟩ k v9 (fun e => hkp e), hb.block k hk]
  · rcases hl9 with e | e
    · rw [e] at hk; cases hk
    · have h2 := e.symm.trans hk
      simp only [Option.some.injEq] at h2
      omega
end Go.Proofs.Ytgiieepfhohmhaa
namespace Go.Proofs.Ytgiieepfhohmhaa
open Go.RowKit Go.Maps
def stopR (s : St) (i : Nat) : St := { s with es := s.es.set i (tellR (rec s.es i) 0 0 0 0) }
end Go.Proofs.Ytgiieepfhohmhaa
namespace Go.Proofs.Ytgiieepfhohmhaa
open Go.RowKit Go.Maps
def isB (old : List Int) (id : Int) : Bool := old.any fun x => x == id
def Keep (W : World) (ob : Option Nat) (w : World) : Prop := Below 0 W w ∧ ∀ k, k < W.heap.size → ob ≠ some k → w.heap[k]? = W.heap[k]?
theorem Keep.refl (W : World) (ob : Option Nat) : Keep W ob W := ⟨Below.refl _ _, fun _ _ _ => rfl⟩
theorem Keep.below {W w w' : World} {ob : Option Nat} (h : Keep W ob w) (hb : Below w.heap.size w w') : Keep W ob w' :=
  ⟨h.1.trans (hb.mono (Nat.zero_le _)), fun k hk hn => (hb.block k (Nat.lt_of_lt_of_le hk h.1.size)).trans (h.2 k hk hn)⟩
theorem Keep.set {W w : World} {g : Nat} (h : Keep W (some g) w) (j : Nat) (v : Value) : Keep W (some g) (w.setCell ⟨g, j, none⟩ v) :=
  ⟨h.1.setCell (p := ⟨g, j, none⟩) (Nat.zero_le _) v, fun k hk hn => (heap_setCell_other w ⟨g, j, none⟩ k v (fun e => hn (by rw [e]))).trans (h.2 k hk hn)⟩
theorem Keep.base {W w : World} {ob : Option Nat} {B : Nat} (h : Keep W ob w) (hB : B ≤ W.heap.size) (ho : ∀ k, ob = some k → B ≤ k) : Below B W w :=
  ⟨h.1.os, h.1.tape, h.1.output, h.1.size, fun k hk => h.2 k (by omega) (fun e => by have := ho k e; omega)⟩
theorem Keep.cell {W w : World} {ob : Option Nat} (h : Keep W ob w) {p : Addr} (hp : p.block < W.heap.size) (hn : ob ≠ some p.block) : w.cell? p = W.cell? p := by
  unfold World.cell?
  rw [h.2 p.block hp hn]
end Go.Proofs.Ytgiieepfhohmhaa
