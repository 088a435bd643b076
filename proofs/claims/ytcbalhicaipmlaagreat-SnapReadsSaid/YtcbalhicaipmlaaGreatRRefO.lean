/- The reference's game: a state of the elder game as a game. -/
import Derived.Test.YtcbalhicaipmlaaGreatRRefEA
import Derived.Test.YtcbalhicaipmlaaGreatROkA
namespace Go.Proofs.YtcbalhicaipmlaaGreat
open Go.RowKit Go.Maps
abbrev nilV : Value := .slice none 0 0
def st0 (t g0 g1 nx : Int) (free : List Int) (us : List (List Int)) : St := { t := t, g0 := g0, g1 := g1, nx := nx, free := free, es := us, born := [] }
theorem Gr.new (w : World) (t g0 g1 nx : Int) (base : Nat) (hb : base ≤ w.heap.size) : Gr base (w.alloc (.cells (refC false (st0 t g0 g1 nx [] []) nilV nilV nilV) 136)) w.heap.size nilV nilV nilV false (st0 t g0 g1 nx [] []) :=
  ⟨heap_alloc_new w _, World.ownsRow_nil _ _ _ _, World.ownsRow_nil _ _ _ _, World.ownsRow_nil _ _ _ _, hb, Or.inl rfl⟩
def SX (B p : Nat) (u : List Int) (G : Array Value) (w : World) : Prop := w.heap[B]? = some (.cells (entC u) 119) ∧ w.heap[p]? = some (.cells G 136)
theorem SX.drew {B p : Nat} {u : List Int} {G : Array Value} {w : World} (h : SX B p u G w) : SX B p u G w.drew := h
theorem SX.alloc {B p : Nat} {u : List Int} {G : Array Value} {w : World} (h : SX B p u G w) (o : Obj) : SX B p u G (w.alloc o) :=
  ⟨(heap_alloc_old w o (Array.getElem?_eq_some_iff.1 h.1).1).trans h.1, (heap_alloc_old w o (Array.getElem?_eq_some_iff.1 h.2).1).trans h.2⟩
theorem rowU_cur {base : Nat} {w : World} {v : Value} {us : List (List Int)} (h : RowU base w v us) {g : Nat} (hg : v.ownBlock = some g) : ∃ cur, w.heap[g]? = some (.cells cur 121 (0, 0)) := by
  rcases h.2 with ⟨h', _⟩ | ⟨g', cap', cur, h', _, hc, _⟩
  · rw [h'] at hg; cases hg
  · rw [h'] at hg; cases hg; exact ⟨cur, hc⟩
theorem Gr.grewU {base : Nat} {w w9 : World} {p : Nat} {uv fv bv v9 : Value} {nw : Bool} {s : St} {us : List (List Int)} (h : Gr base w p uv fv bv nw s) (hr9 : RowU base w9 v9 us) (hg9 : w.grownBy w9 uv.ownBlock) : Gr base (w9.setCell ⟨p, 6, none⟩ v9) p v9 fv bv nw { s with es := us } := by
  have hp9 : w9.heap[p]? = some (.cells (refC nw s fv uv bv) 136) := (hg9.block p h.lt (fun e => row_ne h.er h.hp (by decide) e.symm)).trans h.hp
  have fr9 : NRow base w9 fv s.free := row_other h.fr fun g hg => hg9.block g (World.ownsRow.lt h.fr g hg).2 (fun e => by
    obtain ⟨cur, hc⟩ := rowU_cur h.er e.symm
    exact row_ne h.fr hc (by decide) hg)
  have br9 : NRow base w9 bv s.born := row_other h.br fun g hg => hg9.block g (World.ownsRow.lt h.br g hg).2 (fun e => by
    obtain ⟨cur, hc⟩ := rowU_cur h.er e.symm
    exact row_ne h.br hc (by decide) hg)
  have ho : ∀ k, k ≠ p → (w9.setCell ⟨p, 6, none⟩ v9).heap[k]? = w9.heap[k]? := fun k hk => heap_setCell_other w9 ⟨p, 6, none⟩ k v9 (fun e => hk e)
  refine ⟨heap_setCell_same w9 p 6 _ _ v9 hp9, ?_, ?_, ?_, h.bp, h.fb⟩
  · exact row_other hr9 fun g hg => ho g fun e => row_ne hr9 hp9 (by decide) (by rw [hg, e])
  · exact row_other fr9 fun g hg => ho g fun e => row_ne fr9 hp9 (by decide) (by rw [hg, e])
  · exact row_other br9 fun g hg => ho g fun e => row_ne br9 hp9 (by decide) (by rw [hg, e])
def SB (B : Nat) (u : List Int) (w : World) : Prop := w.heap[B]? = some (.cells (entC u) 119)
theorem SB.drew {B : Nat} {u : List Int} {w : World} (h : SB B u w) : SB B u w.drew := h
theorem SB.alloc {B : Nat} {u : List Int} {w : World} (h : SB B u w) (o : Obj) : SB B u (w.alloc o) := (heap_alloc_old w o (Array.getElem?_eq_some_iff.1 h).1).trans h
theorem SB.set {B : Nat} {u : List Int} {w : World} (h : SB B u w) {q j : Nat} (hq : B ≠ q) (v : Value) : SB B u (w.setCell ⟨q, j, none⟩ v) := (heap_setCell_other w ⟨q, j, none⟩ B v (fun e => hq e)).trans h
theorem SX.grown {base B p : Nat} {u u' : List Int} {G : Array Value} {X w' : World} {v : Value} {us : List (List Int)} (h : SX B p u G X) (hO : RowU base X v us) (hg : (X.alloc (.cells (unitC u') 121)).grownBy w' v.ownBlock) : SX B p u G w' := by
  have hA := h.alloc (.cells (unitC u') 121)
  have hR : RowU base (X.alloc (.cells (unitC u') 121)) v us := World.ownsRow.alloc hO _
  exact ⟨(hg.block B (Array.getElem?_eq_some_iff.1 hA.1).1 (fun e => row_ne hR hA.1 (by decide) e.symm)).trans hA.1, (hg.block p (Array.getElem?_eq_some_iff.1 hA.2).1 (fun e => row_ne hR hA.2 (by decide) e.symm)).trans hA.2⟩
theorem step_putE {ops : Array Oper} {o : Oper} {a : Act} {K : Act → World → Prop} {Q : Exit → Act → World → Prop} {E : Prop} (X : World) (u : List Int) (hgd : o.guard = none) (sO xO : Operand)
    (ho : o.op = .call { callee := .builtin .append, args := #[sO, xO], argTypes := #[30, 30] }) (base : Nat) (v : Value) (us : List (List Int)) (hs : a.eval sO = v) (hO : RowU base X v us) (hbs : base ≤ X.heap.size) (hl : us.length ≤ 1000)
    (hxe : a.eval xO = .slice (some ⟨X.heap.size, 0, none⟩) 1 1)
    (h : ∀ v' w', RowU base w' v' (us ++ [unitE u]) → (X.alloc (.cells (unitC (unitE u)) 121)).grownBy w' v.ownBlock → (v'.ownBlock = v.ownBlock ∨ v'.ownBlock = some (X.heap.size + 1)) → K (a.put o.dst v') w') :
    if Region.wanted o (yielded ops a.tmps) = true then Oper.wp Tryz.prog o a (X.alloc (.cells #[.int .i64 (fld u 0), .int .i64 (fld u 1), .int .i64 (fld u 2), .int .i64 (fld u 3), .int .i64 (fld u 4), .int .i64 (fld u 5), .int .i64 (fld u 6), .int .i64 (fld u 7), .int .i64 (fld u 8), .int .i64 (fld u 9), .int .i64 0] 121)).drew K Q else E := by
  have hR : Recs (X.alloc (.cells (unitC (unitE u)) 121)).drew (some ⟨X.heap.size, 0, none⟩) 11 [unitE u] := recs_oneU X (unitE u) _
  have hW : RowU base (X.alloc (.cells (unitC (unitE u)) 121)).drew v us := World.ownsRow.drew (World.ownsRow.alloc hO _)
  refine step_rowsU (w := (X.alloc (.cells (unitC (unitE u)) 121)).drew) hgd sO xO ho base v us hs hW (some ⟨X.heap.size, 0, none⟩) 1 [unitE u] hxe hR (fun h => by cases h) (show us.length + 1 ≤ 100000 by omega) (by simp [go_sem]; omega) ?_
  intro v' w' h1 h2 h3
  refine h v' w' h1 ⟨h2.os, h2.tape, h2.output, h2.size, h2.block⟩ ?_
  rcases h3 with e | e
  · exact Or.inl e
  · exact Or.inr (by rw [e]; simp [go_sem])
set_option maxRecDepth 100000 in
set_option maxHeartbeats 8000000 in
theorem ofElder_calls (t g0 g1 nx : Int) (free : List Int) (fa ea : Option Addr) (fc ec : Nat) (es : List (List Int)) (w : World) (hne : es.length ≤ 1000) (hnf : free.length ≤ 1000) (hrow : Recs w ea 10 es) (hfr : Nums w fa free) (hfn : fa = none → fc = 0) :
    Calls Tryz.prog 34 #[elderV t g0 g1 nx (.slice fa free.length fc) (.slice ea es.length ec)] w fun e w' => ∃ p, e = .returned (.pointer (some ⟨p, 0, none⟩)) ∧ GrE w.heap.size w' p false (st0 t g0 g1 nx free (es.map unitE)) ∧ Below w.heap.size w w' := by
  obtain ⟨W, hW⟩ : ∃ W, (w.alloc (.cells #[.int .i64 t, .int .i64 g0, .int .i64 g1, .int .i64 nx, .slice fa free.length fc, .slice ea es.length ec] 26)).alloc (.cells #[.bool false, .int .i64 t, .int .i64 g0, .int .i64 g1, .int .i64 nx, .slice none 0 0, .slice none 0 0, .slice none 0 0] 136) = W := ⟨_, rfl⟩
  have hbW : Below w.heap.size w W := by
    rw [← hW]
    exact ((Below.refl _ w).alloc (Nat.le_refl _) _).alloc (by simp [go_sem]) _
  have hsW : W.heap.size = w.heap.size + 2 := by rw [← hW]; simp [go_sem]
  have HGW : Hid (Gr w.heap.size W (w.heap.size + 1) nilV nilV nilV false (st0 t g0 g1 nx [] [])) := by
    have h := Gr.new (w.alloc (.cells #[.int .i64 t, .int .i64 g0, .int .i64 g1, .int .i64 nx, .slice fa free.length fc, .slice ea es.length ec] 26)) t g0 g1 nx w.heap.size (by simp [go_sem])
    have hW' : (w.alloc (.cells #[.int .i64 t, .int .i64 g0, .int .i64 g1, .int .i64 nx, .slice fa free.length fc, .slice ea es.length ec] 26)).alloc (.cells (refC false (st0 t g0 g1 nx [] []) nilV nilV nilV) 136) = W := hW
    rw [hW'] at h
    have e : (w.alloc (.cells #[.int .i64 t, .int .i64 g0, .int .i64 g1, .int .i64 nx, .slice fa free.length fc, .slice ea es.length ec] 26)).heap.size = w.heap.size + 1 := by simp [go_sem]
    rw [e] at h
    exact h
  have hbx : W.heap[w.heap.size]? = some (.cells #[.int .i64 t, .int .i64 g0, .int .i64 g1, .int .i64 nx, .slice fa free.length fc, .slice ea es.length ec] 26) := by
    rw [← hW, heap_alloc_old _ _ (by simp [go_sem])]
    exact heap_alloc_new w _
  have b4 : W.cell? ⟨w.heap.size, 4, none⟩ = some (.slice fa free.length fc) := cell_of_row W _ 4 _ _ _ hbx
  have g5 : W.cell? ⟨w.heap.size + 1, 5, none⟩ = some nilV := HGW.out.cell 5
  have gf5 : W.frozen? ⟨w.heap.size + 1, 5, none⟩ = false := HGW.out.frozen 5
  have HFW := hid (hfr.below hbW)
  have HRW0 := hid hrow
  have HBX := hid hbx
  have HBW := hid hbW
  have HFN := hid hfn
  clear hrow hfr hbx hbW hfn
  go_enter Tryz.func34, Tryz.ntmps34
  go_wp2_with fail
  go_cut [21] (fun _ wx => ∃ va vc, Hid (Gr w.heap.size wx (w.heap.size + 1) nilV (.slice va free.length vc) nilV false (st0 t g0 g1 nx free []) ∧ Below (w.heap.size + 1) W wx))
  case first =>
    go_region_law (refine step_nums rfl (.tmp 18) (.tmp 20) rfl w.heap.size nilV [] (by simp [Act.eval]) (World.ownsRow_nil _ _ _ _) fa fc free (by simp [Act.eval]) HFW.out HFN.out (by show 0 + free.length ≤ 100000; omega) (by simp [go_sem]; omega) ?_
                   intro v' w' hr hg hl
                   have hr' := hr
                   obtain ⟨va, vc, rfl, _, _, _⟩ := hr'.open
                   have hb' : Below W.heap.size W w' := (Below.refl _ W).grown ⟨hg.os, hg.tape, hg.output, hg.size, hg.block⟩ (Nat.le_refl _) (fun k hk => by cases hk)
                   have d5 : w'.cell? ⟨w.heap.size + 1, 5, none⟩ = some nilV := (HGW.out.below hb').cell 5
                   have f5 : w'.frozen? ⟨w.heap.size + 1, 5, none⟩ = false := (HGW.out.below hb').frozen 5
                   have HR' := hid hr
                   have HB' := hid hb'
                   clear hr hr' hg hl hb')
    all_goals
      go_wp2
      go_meet
      have hfb : (Value.slice va free.length vc).ownBlock = none ∨ (Value.slice va free.length vc).ownBlock ≠ nilV.ownBlock := by
        cases h : (Value.slice va free.length vc).ownBlock with
        | none => exact Or.inl rfl
        | some k => exact Or.inr (fun e => by cases e)
      exact ⟨va, vc, (HGW.out.below HB'.out).pset 5 (.slice va free.length vc) (s' := st0 t g0 g1 nx free []) rfl (World.ownsRow_nil _ _ _ _) HR'.out (World.ownsRow_nil _ _ _ _) hfb, (HB'.out.mono (by omega)).setCell (p := ⟨w.heap.size + 1, 5, none⟩) (by show w.heap.size + 1 ≤ w.heap.size + 1; omega) _⟩
  case rest =>
    obtain ⟨va, vc, HM⟩ := hcut
    obtain ⟨fv, hfv⟩ : ∃ fv, fv = Value.slice va free.length vc := ⟨_, rfl⟩
    have HGc : Hid (∃ uv, Gr w.heap.size wc (w.heap.size + 1) uv fv nilV false (st0 t g0 g1 nx free ((es.take 0).map unitE))) := ⟨nilV, by rw [hfv]; exact HM.out.1⟩
    have HBc : Hid (Below (w.heap.size + 1) W wc) := HM.out.2
    clear HM b4 g5 gf5 HGW HFW hfv hW
    go_wp2_with fail
    go_loopw [4] (fun i wr => ∃ k : Nat, k ≤ es.length ∧ i = .int .i64 k ∧ Hid (∃ uv, Gr w.heap.size wr (w.heap.size + 1) uv fv nilV false (st0 t g0 g1 nx free ((es.take k).map unitE))) ∧ Hid (Below (w.heap.size + 1) W wr)) (fun i _ => es.length - (intOf i).toNat)
    case atStart => exact ⟨0, by omega, rfl, HGc, HBc⟩
    case round =>
      clear HGc HBc
      obtain ⟨k, hk, rfl, HGr, HBr⟩ := hrel
      have b5 : wr.cell? ⟨w.heap.size, 5, none⟩ = some (.slice ea es.length ec) := cell_of_row wr _ 5 _ _ _ ((HBr.out.block _ (by omega)).trans HBX.out)
      have hbw : Below w.heap.size w wr := HBW.out.trans (HBr.out.mono (by omega))
      by_cases hkl : k < es.length
      · have hkz : (k : Int) < (es.length : Int) := by omega
        have hrr : Recs wr ea 10 es := HRW0.out.below hbw
        obtain ⟨b, o, rfl, hb, l0, l1, l2, l3, l4, l5, l6, l7, l8, l9⟩ := hrr.ten hkl
        have HTK : Hid ((es.take (k + 1)).map unitE = (es.take k).map unitE ++ [unitE (rec es k)]) := by
          show _ = _
          rw [List.take_add_one, rec_at hkl, List.map_append]
          simp [hkl]
        generalize rec es k = u at l0 l1 l2 l3 l4 l5 l6 l7 l8 l9 HTK
        obtain ⟨us, hus⟩ : ∃ us, us = (es.take k).map unitE := ⟨_, rfl⟩
        have hul : us.length = k := by rw [hus, List.length_map, List.length_take]; omega
        rw [← hus] at HGr HTK
        clear hus
        obtain ⟨uv, hGr⟩ := HGr.out
        obtain ⟨ua, uc, rfl, hcap, _, _⟩ := hGr.er.open
        obtain ⟨X, hX⟩ : ∃ X, wr.alloc (.cells (entC u) 119) = X := ⟨_, rfl⟩
        have hbX : Below wr.heap.size wr X := by rw [← hX]; exact (Below.refl _ wr).alloc (Nat.le_refl _) _
        have hxX : X.heap[wr.heap.size]? = some (.cells (entC u) 119) := by rw [← hX]; exact heap_alloc_new _ _
        have HGX := hid (hGr.below hbX)
        obtain ⟨GA, hGA⟩ : ∃ GA, GA = refC false (st0 t g0 g1 nx free us) fv (.slice ua us.length uc) nilV := ⟨_, rfl⟩
        have hSX : SX wr.heap.size (w.heap.size + 1) u GA X := ⟨hxX, by rw [hGA]; exact HGX.out.hp⟩
        have y0 : ∀ w', SB wr.heap.size u w' → w'.cell? ⟨wr.heap.size, 0, none⟩ = some (.int .i64 (fld u 0)) := fun w' h => cell_of_row w' _ 0 _ _ _ h
        have y1 : ∀ w', SB wr.heap.size u w' → w'.cell? ⟨wr.heap.size, 1, none⟩ = some (.int .i64 (fld u 1)) := fun w' h => cell_of_row w' _ 1 _ _ _ h
        have y2 : ∀ w', SB wr.heap.size u w' → w'.cell? ⟨wr.heap.size, 2, none⟩ = some (.int .i64 (fld u 2)) := fun w' h => cell_of_row w' _ 2 _ _ _ h
        have y3 : ∀ w', SB wr.heap.size u w' → w'.cell? ⟨wr.heap.size, 3, none⟩ = some (.int .i64 (fld u 3)) := fun w' h => cell_of_row w' _ 3 _ _ _ h
        have y4 : ∀ w', SB wr.heap.size u w' → w'.cell? ⟨wr.heap.size, 4, none⟩ = some (.int .i64 (fld u 4)) := fun w' h => cell_of_row w' _ 4 _ _ _ h
        have y5 : ∀ w', SB wr.heap.size u w' → w'.cell? ⟨wr.heap.size, 5, none⟩ = some (.int .i64 (fld u 5)) := fun w' h => cell_of_row w' _ 5 _ _ _ h
        have y6 : ∀ w', SB wr.heap.size u w' → w'.cell? ⟨wr.heap.size, 6, none⟩ = some (.int .i64 (fld u 6)) := fun w' h => cell_of_row w' _ 6 _ _ _ h
        have y7 : ∀ w', SB wr.heap.size u w' → w'.cell? ⟨wr.heap.size, 7, none⟩ = some (.int .i64 (fld u 7)) := fun w' h => cell_of_row w' _ 7 _ _ _ h
        have y8 : ∀ w', SB wr.heap.size u w' → w'.cell? ⟨wr.heap.size, 8, none⟩ = some (.int .i64 (fld u 8)) := fun w' h => cell_of_row w' _ 8 _ _ _ h
        have y9 : ∀ w', SB wr.heap.size u w' → w'.cell? ⟨wr.heap.size, 9, none⟩ = some (.int .i64 (fld u 9)) := fun w' h => cell_of_row w' _ 9 _ _ _ h
        have q6 : X.cell? ⟨w.heap.size + 1, 6, none⟩ = some (.slice ua us.length uc) := HGX.out.cell 6
        have HSX : Hid (SX wr.heap.size (w.heap.size + 1) u GA X) := hSX
        have HSB : Hid (SB wr.heap.size u X) := hxX
        have hBp : wr.heap.size ≠ w.heap.size + 1 := by have := hGr.lt; omega
        have HUL := hid hul
        have hul2 : us.length ≤ 1000 := by omega
        have HGA := hid hGA
        have hpX : w.heap.size + 1 < X.heap.size := HGX.out.lt
        have hpX2 : w.heap.size + 1 ≠ X.heap.size := by omega
        have HBX2 : Hid (Below (w.heap.size + 1) W X) := HBr.out.trans (hbX.mono (by have := hGr.lt; omega))
        have hbs : ∀ o : Obj, w.heap.size ≤ ((X.alloc o).drew).heap.size := fun o => by simp [go_sem]; omega
        clear hxX hbX hGr HGr hcap hul hGA hSX
        go_wp2_with fail
        clear l0 l1 l2 l3 l4 l5 l6 l7 l8 l9 b5 hX
        refine wp_region_noPanic ?_
        refine wp_region_held_drew (S := fun w' => SB wr.heap.size u w') (by kernel_rfl) (SB.drew HSB.out) (fun hHeld => ?_)
        refine wpAnyH_take (i := 0) (v := ?_) rfl (by kernel_rfl) (by kernel_rfl) (by kernel_rfl) (fun _ _ _ h => h) (Or.inl ⟨by rfl, ?_⟩) (by assumption) ?_
        rotate_left
        · intro w' hSw
          go_simp
          all_goals with_reducible rfl
        simp only [Act.put]
        refine wpAnyH_take (i := 1) (v := ?_) rfl (by kernel_rfl) (by kernel_rfl) (by kernel_rfl) (fun _ _ _ h => h) (Or.inl ⟨by rfl, ?_⟩) (by assumption) ?_
        rotate_left
        · intro w' hSw
          go_simp
          all_goals with_reducible rfl
        simp only [Act.put]
        refine wpAnyH_take (i := 2) (v := ?_) rfl (by kernel_rfl) (by kernel_rfl) (by kernel_rfl) (fun _ _ _ h => h) (Or.inl ⟨by rfl, ?_⟩) (by assumption) ?_
        rotate_left
        · intro w' hSw
          go_simp
          all_goals with_reducible rfl
        simp only [Act.put]
        refine wpAnyH_take (i := 3) (v := ?_) rfl (by kernel_rfl) (by kernel_rfl) (by kernel_rfl) (fun _ _ _ h => h) (Or.inl ⟨by rfl, ?_⟩) (by assumption) ?_
        rotate_left
        · intro w' hSw
          go_simp
          all_goals with_reducible rfl
        simp only [Act.put]
        refine wpAnyH_take (i := 5) (v := ?_) rfl (by kernel_rfl) (by kernel_rfl) (by kernel_rfl) (fun _ _ _ h => h) (Or.inl ⟨by rfl, ?_⟩) (by assumption) ?_
        rotate_left
        · intro w' hSw
          go_simp
          all_goals with_reducible rfl
        simp only [Act.put]
        refine wpAnyH_take (i := 6) (v := ?_) rfl (by kernel_rfl) (by kernel_rfl) (by kernel_rfl) (fun _ _ _ h => h) (Or.inl ⟨by rfl, ?_⟩) (by assumption) ?_
        rotate_left
        · intro w' hSw
          go_simp
          all_goals with_reducible rfl
        simp only [Act.put]
        refine wpAnyH_take (i := 7) (v := ?_) rfl (by kernel_rfl) (by kernel_rfl) (by kernel_rfl) (fun _ _ _ h => h) (Or.inl ⟨by rfl, ?_⟩) (by assumption) ?_
        rotate_left
        · intro w' hSw
          go_simp
          all_goals with_reducible rfl
        simp only [Act.put]
        refine wpAnyH_take (i := 8) (v := ?_) rfl (by kernel_rfl) (by kernel_rfl) (by kernel_rfl) (fun _ _ _ h => h) (Or.inl ⟨by rfl, ?_⟩) (by assumption) ?_
        rotate_left
        · intro w' hSw
          go_simp
          all_goals with_reducible rfl
        simp only [Act.put]
        refine wpAnyH_take (i := 9) (v := ?_) rfl (by kernel_rfl) (by kernel_rfl) (by kernel_rfl) (fun _ _ _ h => h) (Or.inl ⟨by rfl, ?_⟩) (by assumption) ?_
        rotate_left
        · intro w' hSw
          go_simp
          all_goals with_reducible rfl
        simp only [Act.put]
        refine wpAnyH_take (i := 10) (v := ?_) rfl (by kernel_rfl) (by kernel_rfl) (by kernel_rfl) (fun _ _ _ h => h) (Or.inl ⟨by rfl, ?_⟩) (by assumption) ?_
        rotate_left
        · intro w' hSw
          go_simp
          all_goals with_reducible rfl
        simp only [Act.put]
        refine wpAnyH_take (i := 11) (v := ?_) rfl (by kernel_rfl) (by kernel_rfl) (by kernel_rfl) (fun _ _ _ h => h) (Or.inl ⟨by rfl, ?_⟩) (by assumption) ?_
        rotate_left
        · intro w' hSw
          go_simp
          all_goals with_reducible rfl
        simp only [Act.put]
        refine wpAnyH_take (i := 12) (v := ?_) rfl (by kernel_rfl) (by kernel_rfl) (by kernel_rfl) (fun _ _ _ h => h) (Or.inl ⟨by rfl, ?_⟩) (by assumption) ?_
        rotate_left
        · intro w' hSw
          go_simp
          all_goals with_reducible rfl
        simp only [Act.put]
        refine wpAnyH_take (i := 13) (v := ?_) rfl (by kernel_rfl) (by kernel_rfl) (by kernel_rfl) (fun _ _ _ h => h) (Or.inl ⟨by rfl, ?_⟩) (by assumption) ?_
        rotate_left
        · intro w' hSw
          go_simp
          all_goals with_reducible rfl
        simp only [Act.put]
        refine wpAnyH_take (i := 14) (v := ?_) rfl (by kernel_rfl) (by kernel_rfl) (by kernel_rfl) (fun _ _ _ h => h) (Or.inl ⟨by rfl, ?_⟩) (by assumption) ?_
        rotate_left
        · intro w' hSw
          go_simp
          all_goals with_reducible rfl
        simp only [Act.put]
        refine wpAnyH_take (i := 15) (v := ?_) rfl (by kernel_rfl) (by kernel_rfl) (by kernel_rfl) (fun _ _ _ h => h) (Or.inl ⟨by rfl, ?_⟩) (by assumption) ?_
        rotate_left
        · intro w' hSw
          go_simp
          all_goals with_reducible rfl
        simp only [Act.put]
        refine wpAnyH_take (i := 16) (v := ?_) rfl (by kernel_rfl) (by kernel_rfl) (by kernel_rfl) (fun _ _ _ h => h) (Or.inl ⟨by rfl, ?_⟩) (by assumption) ?_
        rotate_left
        · intro w' hSw
          go_simp
          all_goals with_reducible rfl
        simp only [Act.put]
        refine wpAnyH_take (i := 17) (v := ?_) rfl (by kernel_rfl) (by kernel_rfl) (by kernel_rfl) (fun _ _ _ h => h) (Or.inl ⟨by rfl, ?_⟩) (by assumption) ?_
        rotate_left
        · intro w' hSw
          go_simp
          all_goals with_reducible rfl
        simp only [Act.put]
        refine wpAnyH_take (i := 18) (v := ?_) rfl (by kernel_rfl) (by kernel_rfl) (by kernel_rfl) (fun _ _ _ h => h) (Or.inl ⟨by rfl, ?_⟩) (by assumption) ?_
        rotate_left
        · intro w' hSw
          go_simp
          all_goals with_reducible rfl
        simp only [Act.put]
        refine wpAnyH_take (i := 19) (v := ?_) rfl (by kernel_rfl) (by kernel_rfl) (by kernel_rfl) (fun _ _ _ h => h) (Or.inl ⟨by rfl, ?_⟩) (by assumption) ?_
        rotate_left
        · intro w' hSw
          go_simp
          all_goals with_reducible rfl
        simp only [Act.put]
        refine wpAnyH_take (i := 20) (v := ?_) rfl (by kernel_rfl) (by kernel_rfl) (by kernel_rfl) (fun _ _ _ h => h) (Or.inl ⟨by rfl, ?_⟩) (by assumption) ?_
        rotate_left
        · intro w' hSw
          go_simp
          all_goals with_reducible rfl
        simp only [Act.put]
        refine wpAnyH_take (i := 21) (v := ?_) rfl (by kernel_rfl) (by kernel_rfl) (by kernel_rfl) (fun _ _ _ h => h) (Or.inl ⟨by rfl, ?_⟩) (by assumption) ?_
        rotate_left
        · intro w' hSw
          go_simp
          all_goals with_reducible rfl
        simp only [Act.put]
        refine wpAnyH_take (i := 22) (v := ?_) rfl (by kernel_rfl) (by kernel_rfl) (by kernel_rfl) (fun _ _ _ h => h) (Or.inl ⟨by rfl, ?_⟩) (by assumption) ?_
        rotate_left
        · intro w' hSw
          go_simp
          all_goals with_reducible rfl
        simp only [Act.put]
        refine wpAnyH_take (i := 23) (v := ?_) rfl (by kernel_rfl) (by kernel_rfl) (by kernel_rfl) (fun _ _ _ h => h) (Or.inl ⟨by rfl, ?_⟩) (by assumption) ?_
        rotate_left
        · intro w' hSw
          go_simp
          all_goals with_reducible rfl
        simp only [Act.put]
        refine wpAnyH_take (i := 24) (v := ?_) rfl (by kernel_rfl) (by kernel_rfl) (by kernel_rfl) (fun _ _ _ h => h) (Or.inl ⟨by rfl, ?_⟩) (by assumption) ?_
        rotate_left
        · intro w' hSw
          go_simp
          all_goals with_reducible rfl
        simp only [Act.put]
        refine wpAnyH_take (i := 25) (v := ?_) rfl (by kernel_rfl) (by kernel_rfl) (by kernel_rfl) (fun _ _ _ h => h) (Or.inl ⟨by rfl, ?_⟩) (by assumption) ?_
        rotate_left
        · intro w' hSw
          go_simp
          all_goals with_reducible rfl
        simp only [Act.put]
        refine wpAnyH_ready (rs := [4, 26]) (by kernel_rfl) (by simp) ?_
        refine AllReadyH.cons rfl (fun K hK => ?_) (AllReadyH.cons rfl (fun K hK => ?_) AllReadyH.nil)
        · go_simp
          refine hK.out _ _ (by assumption) (fun hHeld => ?_)
          clear hK K
          refine wpAnyH_ready (rs := [26]) (by kernel_rfl) (by simp) ?_
          refine AllReadyH.cons rfl (fun K hK => ?_) AllReadyH.nil
          go_simp
          refine hK.out _ _ (SB.alloc (by assumption) _) (fun hHeld => ?_)
          clear hK K
          refine wpAnyH_ready (rs := [27]) (by kernel_rfl) (by simp) ?_
          refine AllReadyH.cons rfl (fun K hK => ?_) AllReadyH.nil
          refine step_putE X u (by rfl) (.tmp 40) (.tmp 62) (by rfl) w.heap.size (.slice ua us.length uc) us (by rfl) HGX.out.er (by omega) hul2 (by rfl) ?_
          intro v' w' hr hg hl
          have hr' := hr
          obtain ⟨va, vc, rfl, _, _, _⟩ := hr'.open
          have HRN := hid hr
          have HGR := hid hg
          have hs9 := SX.grown HSX.out HGX.out.er hg
          have f6 := frozen_of_row w' (w.heap.size + 1) 6 _ _ hs9.2
          have d6 : w'.cell? ⟨w.heap.size + 1, 6, none⟩ = some (.slice ua us.length uc) := (cell_of_row w' (w.heap.size + 1) 6 _ _ _ hs9.2).trans (by rw [HGA.out]; rfl)
          have HS9 : Hid (SB wr.heap.size u w') := hs9.1
          clear hr hr' hg hl hs9 hHeld
          refine hK.out _ _ HS9.out (fun hHeld => ?_)
          clear hK K
          simp only [Act.put]
          refine wpAnyH_take (i := 28) (v := ?_) rfl (by kernel_rfl) (by kernel_rfl) (by kernel_rfl) (fun _ _ _ h => h) (Or.inl ⟨by rfl, ?_⟩) (by assumption) ?_
          rotate_left
          · intro w' hSw
            go_simp
            all_goals with_reducible rfl
          simp only [Act.put]
          refine wpAnyH_take (i := 29) (v := ?_) rfl (by kernel_rfl) (by kernel_rfl) (by kernel_rfl) (fun _ _ _ h => h) (Or.inl ⟨by rfl, ?_⟩) (by assumption) ?_
          rotate_left
          · intro w' hSw
            go_simp
            all_goals with_reducible rfl
          simp only [Act.put]
          refine wpAnyH_ready (rs := [30]) (by kernel_rfl) (by simp) ?_
          refine AllReadyH.cons rfl (fun K hK => ?_) AllReadyH.nil
          go_simp
          refine hK.out _ _ (SB.set HS9.out hBp _) (fun hHeld => ?_)
          clear hK K
          refine wpAnyH_done (by kernel_rfl) ?_ _
          refine NoPanic.normal ?_
          clear hHeld
          go_wp2_with fail
          go_roundw
          case rel =>
            have hlen : (us ++ [unitE u]).length = us.length + 1 := by simp
            have hrn := HRN.out
            rw [hlen] at hrn
            have hga := HGX.out.below ((Below.refl _ X).alloc (Nat.le_refl _) (.cells (unitC (unitE u)) 121))
            have hX0 := (HBX2.out.block w.heap.size (Nat.lt_succ_self _)).trans HBX.out
            refine ⟨k + 1, by omega, by go_num, ⟨.slice va (us.length + 1) vc, ?_⟩, ?_⟩
            · rw [HTK.out]
              exact Gr.grewU hga hrn HGR.out
            · refine Below.setCell (p := ⟨w.heap.size + 1, 6, none⟩) ?_ (Nat.le_refl _) _
              refine (HBX2.out.alloc (Nat.le_of_lt hpX) _).grown HGR.out (by simp [go_sem]; omega) (fun q hq => ?_)
              have h1 := (World.ownsRow.lt HGX.out.er q hq).1
              have h2 : q ≠ w.heap.size := fun e => row_ne HGX.out.er hX0 (by decide) (by rw [← e]; exact hq)
              omega
          case measure => simp [intOf]; omega
        · go_simp
          refine hK.out _ _ (SB.alloc (by assumption) _) (fun hHeld => ?_)
          clear hK K
          refine wpAnyH_ready (rs := [4]) (by kernel_rfl) (by simp) ?_
          refine AllReadyH.cons rfl (fun K hK => ?_) AllReadyH.nil
          go_simp
          refine hK.out _ _ (by assumption) (fun hHeld => ?_)
          clear hK K
          refine wpAnyH_ready (rs := [27]) (by kernel_rfl) (by simp) ?_
          refine AllReadyH.cons rfl (fun K hK => ?_) AllReadyH.nil
          refine step_putE X u (by rfl) (.tmp 40) (.tmp 62) (by rfl) w.heap.size (.slice ua us.length uc) us (by rfl) HGX.out.er (by omega) hul2 (by rfl) ?_
          intro v' w' hr hg hl
          have hr' := hr
          obtain ⟨va, vc, rfl, _, _, _⟩ := hr'.open
          have HRN := hid hr
          have HGR := hid hg
          have hs9 := SX.grown HSX.out HGX.out.er hg
          have f6 := frozen_of_row w' (w.heap.size + 1) 6 _ _ hs9.2
          have d6 : w'.cell? ⟨w.heap.size + 1, 6, none⟩ = some (.slice ua us.length uc) := (cell_of_row w' (w.heap.size + 1) 6 _ _ _ hs9.2).trans (by rw [HGA.out]; rfl)
          have HS9 : Hid (SB wr.heap.size u w') := hs9.1
          clear hr hr' hg hl hs9 hHeld
          refine hK.out _ _ HS9.out (fun hHeld => ?_)
          clear hK K
          simp only [Act.put]
          refine wpAnyH_take (i := 28) (v := ?_) rfl (by kernel_rfl) (by kernel_rfl) (by kernel_rfl) (fun _ _ _ h => h) (Or.inl ⟨by rfl, ?_⟩) (by assumption) ?_
          rotate_left
          · intro w' hSw
            go_simp
            all_goals with_reducible rfl
          simp only [Act.put]
          refine wpAnyH_take (i := 29) (v := ?_) rfl (by kernel_rfl) (by kernel_rfl) (by kernel_rfl) (fun _ _ _ h => h) (Or.inl ⟨by rfl, ?_⟩) (by assumption) ?_
          rotate_left
          · intro w' hSw
            go_simp
            all_goals with_reducible rfl
          simp only [Act.put]
          refine wpAnyH_ready (rs := [30]) (by kernel_rfl) (by simp) ?_
          refine AllReadyH.cons rfl (fun K hK => ?_) AllReadyH.nil
          go_simp
          refine hK.out _ _ (SB.set HS9.out hBp _) (fun hHeld => ?_)
          clear hK K
          refine wpAnyH_done (by kernel_rfl) ?_ _
          refine NoPanic.normal ?_
          clear hHeld
          go_wp2_with fail
          go_roundw
          case rel =>
            have hlen : (us ++ [unitE u]).length = us.length + 1 := by simp
            have hrn := HRN.out
            rw [hlen] at hrn
            have hga := HGX.out.below ((Below.refl _ X).alloc (Nat.le_refl _) (.cells (unitC (unitE u)) 121))
            have hX0 := (HBX2.out.block w.heap.size (Nat.lt_succ_self _)).trans HBX.out
            refine ⟨k + 1, by omega, by go_num, ⟨.slice va (us.length + 1) vc, ?_⟩, ?_⟩
            · rw [HTK.out]
              exact Gr.grewU hga hrn HGR.out
            · refine Below.setCell (p := ⟨w.heap.size + 1, 6, none⟩) ?_ (Nat.le_refl _) _
              refine (HBX2.out.alloc (Nat.le_of_lt hpX) _).grown HGR.out (by simp [go_sem]; omega) (fun q hq => ?_)
              have h1 := (World.ownsRow.lt HGX.out.er q hq).1
              have h2 : q ≠ w.heap.size := fun e => row_ne HGX.out.er hX0 (by decide) (by rw [← e]; exact hq)
              omega
          case measure => simp [intOf]; omega
      · have hke : k = es.length := by omega
        subst hke
        have hkz : ¬ (es.length : Int) < (es.length : Int) := by omega
        rw [List.take_length] at HGr
        go_wp2
        go_ret
        obtain ⟨uv, hGr⟩ := HGr.out
        exact ⟨_, rfl, ⟨uv, fv, nilV, hGr⟩, hbw⟩
end Go.Proofs.YtcbalhicaipmlaaGreat
