/- The reference's game: one builds. -/
import Derived.Test.YtgiieepfhohmhaaGiA
namespace Go.Proofs.Ytgiieepfhohmhaa
open Go.RowKit Go.Maps

def takeR (nw : Bool) (s : St) : Option (Int × St) :=
  if s.free = [] then (if topZ nw < s.nx then none else some (s.nx, { s with nx := s.nx + 1 })) else some (fld s.free (s.free.length - 1), { s with free := s.free.take (s.free.length - 1) })
def newR (nw : Bool) (t id o k x y : Int) : List Int := [id, o, k, x, y, fld (ruleL nw k) 1, 0, 0, 0, 0, if nw = true then t else 0]
def lateR (nw : Bool) (s : St) (u : List Int) (k x y : Int) : Bool := standsB x y s.es || (decide (1 < Pl.farZ (fld u 3) (fld u 4) x y) || (decide (goldOf s (fld u 1) < fld (ruleL nw k) 0) || ((s.es.length : Int) == 20)))
def soonR (nw : Bool) (u : List Int) (k x y : Int) : Bool := !hasB nw k || (k == 4 || (fld u 2 != 1 || !Pl.onB x y))
def finR (nw : Bool) (t : Int) (u : List Int) (k x y id : Int) (s1 : St) : St := { payS s1 (fld u 1) (fld (ruleL nw k) 0) with es := putR (newR nw t id (fld u 1) k x y) s1.es, born := s1.born ++ [id] }
def doneR (nw : Bool) (s : St) (u : List Int) (k x y : Int) : St :=
  match takeR nw s with
  | none => s
  | some (id, s1) => finR nw s.t u k x y id s1
def buildR (nw : Bool) (s : St) (u : List Int) (k x y : Int) : St :=
  if soonR nw u k x y = true then s else if lateR nw s u k x y = true then s else doneR nw s u k x y

def BoxB (W : World) (b : Nat) (nw : Bool) (u : List Int) (k : Int) : Prop :=
  W.heap[b]? = some (.cells (unitC u) 110) ∧ W.heap[b + 1 + 1]? = some (.cells (ruleCR nw k) 44)
theorem BoxB.cells {W : World} {b : Nat} {nw : Bool} {u : List Int} {k : Int} (h : BoxB W b nw u k) : W.cell? ⟨b, 1, none⟩ = some (.int .i64 (fld u 1)) ∧ W.cell? ⟨b, 2, none⟩ = some (.int .i64 (fld u 2)) ∧ W.cell? ⟨b, 3, none⟩ = some (.int .i64 (fld u 3)) ∧ W.cell? ⟨b, 4, none⟩ = some (.int .i64 (fld u 4)) ∧ W.cell? ⟨b + 1 + 1, 0, none⟩ = some (.int .i64 (fld (ruleL nw k) 0)) ∧ W.cell? ⟨b + 1 + 1, 1, none⟩ = some (.int .i64 (fld (ruleL nw k) 1)) := by
  obtain ⟨h0, h1⟩ := h
  have a : ∀ j, W.cell? ⟨b, j, none⟩ = (unitC u)[j]? := fun j => cell_of_row W b j _ _ _ h0
  have c : ∀ j, W.cell? ⟨b + 1 + 1, j, none⟩ = (ruleCR nw k)[j]? := fun j => cell_of_row W (b + 1 + 1) j _ _ _ h1
  exact ⟨a 1, a 2, a 3, a 4, c 0, c 1⟩
theorem BoxB.below {W W' : World} {b : Nat} {nw : Bool} {u : List Int} {k : Int} (h : BoxB W b nw u k) (hb : Below W.heap.size W W') : BoxB W' b nw u k := by
  obtain ⟨h0, h1⟩ := h
  exact ⟨(hb.block _ (Array.getElem?_eq_some_iff.1 h0).1).trans h0, (hb.block _ (Array.getElem?_eq_some_iff.1 h1).1).trans h1⟩

theorem BoxB.other {W W' : World} {b : Nat} {nw : Bool} {u : List Int} {k : Int} (h : BoxB W b nw u k) (h0 : W'.heap[b]? = W.heap[b]?) (h1 : W'.heap[b + 1 + 1]? = W.heap[b + 1 + 1]?) : BoxB W' b nw u k := ⟨h0.trans h.1, h1.trans h.2⟩
theorem Gr.bornK {base : Nat} {w w9 : World} {p : Nat} {uv fv bv : Value} {nw : Bool} {s : St} (h : Gr base w p uv fv bv nw s) (id : Int) (hg9 : (w.alloc (.cells #[.int .i64 id] 3)).grownBy w9 bv.ownBlock) :
    w9.heap[p]? = some (.cells (refC nw s fv uv bv) 147) ∧ RowU base w9 uv s.es ∧ NRow base w9 fv s.free := by
  have h' := h.below ((Below.refl _ w).alloc (Nat.le_refl _) (.cells #[.int .i64 id] 3))
  exact ⟨(hg9.block p h'.lt (fun e => row_ne h'.br h'.hp (by decide) e.symm)).trans h'.hp, World.ownsRow.kept h'.er hg9 (row_row_ne h'.er h'.br (by decide)), World.ownsRow.kept h'.fr hg9 h'.fb⟩
theorem Gr.born {base : Nat} {w w9 : World} {p : Nat} {uv fv bv v9 : Value} {nw : Bool} {s : St} (h : Gr base w p uv fv bv nw s) (hbs : base ≤ w.heap.size) (id : Int) (hr9 : NRow base w9 v9 (s.born ++ [id])) (hg9 : (w.alloc (.cells #[.int .i64 id] 3)).grownBy w9 bv.ownBlock)
    (hl9 : v9.ownBlock = bv.ownBlock ∨ v9.ownBlock = some (w.alloc (.cells #[.int .i64 id] 3)).heap.size) :
    GrE base (w9.setCell ⟨p, 7, none⟩ v9) p nw { s with born := s.born ++ [id] } ∧ Below base w (w9.setCell ⟨p, 7, none⟩ v9) ∧ Fr w (w9.setCell ⟨p, 7, none⟩ v9) p := by
  obtain ⟨kp, ke, kf⟩ := h.bornK id hg9
  have hfb : fv.ownBlock = none ∨ fv.ownBlock ≠ v9.ownBlock := by
    rcases hl9 with e | e
    · rw [e]; exact h.fb
    · refine Or.inr fun e2 => ?_
      have h2 := (World.ownsRow.lt h.fr _ (e2.trans e)).2
      simp [go_sem] at h2
      omega
  have ho : ∀ k, k ≠ p → (w9.setCell ⟨p, 7, none⟩ v9).heap[k]? = w9.heap[k]? := fun k hk => heap_setCell_other w9 ⟨p, 7, none⟩ k v9 (fun e => hk e)
  have hG9 : Gr base (w9.setCell ⟨p, 7, none⟩ v9) p uv fv v9 nw { s with born := s.born ++ [id] } := by
    refine ⟨?_, ?_, ?_, ?_, h.bp, hfb⟩
    · exact heap_setCell_same w9 p 7 _ _ v9 kp
    · exact row_other ke fun g hg => ho g fun e => row_ne ke kp (by decide) (by rw [hg, e])
    · exact row_other kf fun g hg => ho g fun e => row_ne kf kp (by decide) (by rw [hg, e])
    · exact row_other hr9 fun g hg => ho g fun e => row_ne hr9 kp (by decide) (by rw [hg, e])
  refine ⟨⟨_, _, _, hG9⟩, ((((Below.refl _ w).alloc hbs _).grown hg9 (by simp [go_sem]; omega) (fun k hk => (World.ownsRow.lt h.br k hk).1))).setCell (p := ⟨p, 7, none⟩) h.bp _, h.frame hG9 ?_ ?_ (fun _ hk => Or.inl hk) (fun _ hk => Or.inl hk) ?_⟩
  · have h1 := hg9.size
    simp [go_sem] at h1 ⊢
    omega
  · intro k hk hkp _ _ hkb
    rw [ho k hkp, hg9.block k (by simp [go_sem]; omega) (fun e => hkb e.symm), heap_alloc_old _ _ hk]
  · intro k hk
    rcases hl9 with e | e
    · exact Or.inl (e.symm.trans hk)
    · have h2 := e.symm.trans hk
      simp only [Option.some.injEq] at h2
      simp [go_sem] at h2
      exact Or.inr (by omega)
theorem Gr.take {base : Nat} {w w9 : World} {p : Nat} {uv fv bv v9 : Value} {nw : Bool} {s : St} (h : Gr base w p uv fv bv nw s) (hbs : base ≤ w.heap.size) (fr : List Int) (hr9 : NRow base w9 v9 fr) (hg9 : w.grownBy w9 none) (hl9 : v9.ownBlock = none ∨ v9.ownBlock = some w.heap.size) :
    Gr base (w9.setCell ⟨p, 5, none⟩ v9) p uv v9 bv nw { s with free := fr } ∧ Below base w (w9.setCell ⟨p, 5, none⟩ v9) ∧ Below w.heap.size w w9 ∧ Fr w (w9.setCell ⟨p, 5, none⟩ v9) p := by
  have hb : Below w.heap.size w w9 := (Below.refl _ w).grown hg9 (Nat.le_refl _) (fun k hk => by cases hk)
  have h' := h.below hb
  have hfb : v9.ownBlock = none ∨ v9.ownBlock ≠ bv.ownBlock := by
    rcases hl9 with e | e
    · exact Or.inl e
    · refine Or.inr fun e2 => ?_
      have h2 := (World.ownsRow.lt h.br _ (e2.symm.trans e)).2
      omega
  have hG5 := h'.pset 5 v9 (s' := { s with free := fr }) rfl h'.er hr9 h'.br hfb
  refine ⟨hG5, (hb.mono hbs).setCell (p := ⟨p, 5, none⟩) h.bp _, hb, h.frame hG5 (by have := hb.size; simp; omega) (fun k hk hkp _ _ _ => ?_) (fun _ hk => Or.inl hk) (fun k hk => Or.inr ?_) (fun _ hk => Or.inl hk)⟩
  · rw [heap_setCell_other w9 ⟨p, 5, none⟩ k v9 (fun e => hkp e), hb.block k hk]
  · rcases hl9 with e | e
    · rw [e] at hk; cases hk
    · have h2 := e.symm.trans hk
      simp only [Option.some.injEq] at h2
      omega
theorem Gr.pay {base : Nat} {w : World} {p : Nat} {uv fv bv : Value} {nw : Bool} {s : St} (h : Gr base w p uv fv bv nw s) (o c : Int) (ho : o = 0 ∨ o = 1) :
    Gr base (w.setCell ⟨p, 2 + o.toNat, none⟩ (.int .i64 (goldOf s o - c))) p uv fv bv nw (payS s o c) ∧ w.cell? ⟨p, 2 + o.toNat, none⟩ = some (.int .i64 (goldOf s o)) ∧ w.frozen? ⟨p, 2 + o.toNat, none⟩ = false ∧ Fr w (w.setCell ⟨p, 2 + o.toNat, none⟩ (.int .i64 (goldOf s o - c))) p := by
  rcases ho with rfl | rfl
  · have h2 := h.pset 2 (.int .i64 (s.g0 - c)) (s' := payS s 0 c) rfl h.er h.fr h.br h.fb
    exact ⟨h2, h.cell 2, h.frozen 2, h.setFrame h2 rfl rfl rfl⟩
  · have h2 := h.pset 3 (.int .i64 (s.g1 - c)) (s' := payS s 1 c) rfl h.er h.fr h.br h.fb
    exact ⟨h2, h.cell 3, h.frozen 3, h.setFrame h2 rfl rfl rfl⟩
theorem costR_bd (nw : Bool) (k : Int) : 0 ≤ fld (ruleL nw k) 0 ∧ fld (ruleL nw k) 0 ≤ 15 := by
  unfold ruleL
  cases nw
  · show 0 ≤ Pl.eCost k ∧ Pl.eCost k ≤ 15
    unfold Pl.eCost
    split
    · omega
    · split
      · omega
      · split
        · omega
        · split <;> omega
  · show 0 ≤ Pl.nCost k ∧ Pl.nCost k ≤ 15
    unfold Pl.nCost
    split
    · omega
    · split
      · omega
      · split <;> omega

set_option maxRecDepth 100000 in
set_option maxHeartbeats 8000000 in
theorem builds_calls (base p : Nat) (nw : Bool) (s : St) (i : Nat) (u : List Int) (k x y : Int) (w : World) (hi : i < s.es.length) (hru : rec s.es i = u) (hn : s.es.length ≤ 50) (hfl : s.free.length ≤ 1000) (hbl : s.born.length ≤ 1000) (hn0 : 0 ≤ s.nx ∧ s.nx ≤ 3000) (hg0 : 0 ≤ s.g0 ∧ s.g0 ≤ 2000) (hg1 : 0 ≤ s.g1 ∧ s.g1 ≤ 2000)
    (hu : OnU u) (ho : fld u 2 = 1 → fld u 1 = 0 ∨ fld u 1 = 1) (hbs : base ≤ w.heap.size) (h : GrE base w p nw s) :
    Calls Try.prog 90 #[.pointer (some ⟨p, 0, none⟩), .int .i64 i, .int .i64 k, .int .i64 x, .int .i64 y] w fun e w' => e = .returned (.tuple #[]) ∧ GrE base w' p nw (buildR nw s u k x y) ∧ Below base w w' ∧ Fr w w' p := by
  have HGE := hid h
  obtain ⟨uv, fv, bv, hG⟩ := h
  have hbp := hG.bp
  have hlt := hG.lt
  obtain ⟨ea, c, rfl, hcap, _, hge⟩ := hG.er.open
  obtain ⟨g, rfl, hbg, hgl⟩ := hge (by omega)
  obtain ⟨W, hW⟩ : ∃ W, ((w.alloc (.cells (unitC u) 110)).alloc (.cells (ruleCR nw k) 44)).alloc (.cells (ruleCR nw k) 44) = W := ⟨_, rfl⟩
  have hbW : Below w.heap.size w W := by
    rw [← hW]
    exact (((Below.refl _ w).alloc (Nat.le_refl _) _).alloc (by simp [go_sem]) _).alloc (by simp [go_sem]; omega) _
  have hsW : W.heap.size = w.heap.size + 3 := by rw [← hW]; simp [go_sem]
  have hBx : BoxB W w.heap.size nw u k := by
    rw [← hW]
    refine ⟨?_, ?_⟩
    · rw [heap_alloc_old _ _ (by simp [go_sem]), heap_alloc_old _ _ (by simp [go_sem])]
      exact heap_alloc_new w _
    · have e : w.heap.size + 1 + 1 = ((w.alloc (.cells (unitC u) 110)).alloc (.cells (ruleCR nw k) 44)).heap.size := by simp [go_sem]
      rw [e]
      exact heap_alloc_new _ _
  have c0 : w.cell? ⟨p, 0, none⟩ = some (.bool nw) := hG.cell 0
  have c6 : w.cell? ⟨p, 6, none⟩ = some (.slice (some ⟨g, 0, none⟩) s.es.length c) := hG.cell 6
  have hc := (hG.er.cells hi).1
  rw [hru] at hc
  have x0 : w.cell? ⟨g, i * 11, none⟩ = some (.int .i64 (fld u 0)) := hc 0 (by omega)
  have x1 := hc 1 (by omega)
  have x2 := hc 2 (by omega)
  have x3 := hc 3 (by omega)
  have x4 := hc 4 (by omega)
  have x5 := hc 5 (by omega)
  have x6 := hc 6 (by omega)
  have x7 := hc 7 (by omega)
  have x8 := hc 8 (by omega)
  have x9 := hc 9 (by omega)
  have x10 := hc 10 (by omega)
  have HGW := hid (hG.below hbW)
  have HSC := hid (stands_calls p c (some ⟨g, 0, none⟩) s.es x y W (by omega) ((hG.below hbW).cell 6) (rowU_recs (hG.below hbW).er))
  have HBC := hid (bounds_calls p nw w c0)
  have HBW := hid hbW
  have HSW := hid hsW
  have HBX := hid hBx
  have HU := hid hu
  have HO := hid ho
  have hiz : (i : Int) < (s.es.length : Int) := by omega
  have hiz0 : (0 : Int) ≤ (i : Int) := by omega
  have HBB : Hid (∀ W', Below W.heap.size W W' → Below base w W') := fun W' hb => (hbW.trans (hb.mono (by omega))).mono hbs
  clear hc hG hge hbW hsW hBx hu ho hru
  go_enter Try.func90, Try.ntmps90
  go_wp2_with fail
  refine HBC.out.mono ?_
  clear HBC
  rintro e w1 ⟨rfl, rfl⟩
  go_wp2_with fail
  refine (rule_calls nw k _).mono ?_
  rintro e w2 ⟨rfl, rfl⟩
  clear x0 x1 x2 x3 x4 x5 x6 x7 x8 x9 x10 c0 c6
  go_wp2_with fail
  refine (refOn_calls x y _).mono ?_
  rintro e w3 ⟨rfl, rfl⟩
  obtain ⟨y1, y2, y3, y4, r0, r1⟩ := HBX.out.cells
  have HBR : Hid (buildR nw s u k x y = if soonR nw u k x y = true then s else if lateR nw s u k x y = true then s else doneR nw s u k x y) := rfl
  cases hso : soonR nw u k x y with
  | true =>
    have HE : Hid (buildR nw s u k x y = s) := HBR.out.trans (by rw [hso]; rfl)
    have HGF : Hid (GrE base w3 p nw s) := ⟨_, _, _, HGW.out⟩
    have HBF := hid (HBB.out w3 (Below.refl _ _))
    have HFF : Hid (Fr w1 w3 p) := Fr.below HBW.out hlt
    unfold soonR at hso
    rcases tf (!hasB nw k) (tf (k == 4) (tf (fld u 2 != 1) trivial)) with h1 | ⟨h1, h2 | ⟨h2, h3 | ⟨h3, _⟩⟩⟩
    case inr.inr.inr =>
      rw [h1, h2, h3, Bool.false_or, Bool.false_or, Bool.false_or] at hso
      go_wp2
      refine bodyPost_ret (results_none rfl _ _ _) rfl ?_
      exact ⟨rfl, by rw [HE.out]; exact HGF.out, HBF.out, HFF.out⟩
    all_goals
      clear hso
      go_wp2
      refine bodyPost_ret (results_none rfl _ _ _) rfl ?_
      exact ⟨rfl, by rw [HE.out]; exact HGF.out, HBF.out, HFF.out⟩
  | false =>
    rw [hso] at HBR
    have HBR2 : Hid (buildR nw s u k x y = if lateR nw s u k x y = true then s else doneR nw s u k x y) := HBR.out
    clear HBR
    unfold soonR at hso
    simp only [Bool.or_eq_false_iff] at hso
    obtain ⟨h1, h2, h3, h4⟩ := hso
    have HO2 : Hid (fld u 1 = 0 ∨ fld u 1 = 1) := HO.out (by simpa [bne] using h3)
    have HXY : Hid ((0 ≤ x ∧ x < 12) ∧ 0 ≤ y ∧ y < 12) := by
      have : Pl.onB x y = true := by simpa using h4
      exact Pl.onB_true this
    go_wp2_with fail
    refine HSC.out.mono ?_
    clear HSC
    rintro e w4 ⟨rfl, rfl⟩
    go_wp2_with fail
    clear hW h1 h2 h3 h4
    go_cut [16, 93] (fun _ r wx => r = .bool (lateR nw s u k x y) ∧ Hid (∃ n, wx = w4.drewN n))
    case first =>
      clear HBR2 HBB HGE
      have HLR : Hid (lateR nw s u k x y = (standsB x y s.es || (decide (1 < Pl.farZ (fld u 3) (fld u 4) x y) || (decide (goldOf s (fld u 1) < fld (ruleL nw k) 0) || ((s.es.length : Int) == 20))))) := rfl
      cases hst : standsB x y s.es with
      | true =>
        have HLE : Hid (lateR nw s u k x y = true) := HLR.out.trans (by rw [hst]; rfl)
        go_quiet (fail)
        go_wp2
        go_meet
        exact ⟨by rw [HLE.out], _, rfl⟩
      | false =>
        rw [hst, Bool.false_or] at HLR
        clear hst
        have HFA : Hid (∀ wz, Calls Try.prog 35 #[.int .i64 (fld u 3), .int .i64 (fld u 4), .int .i64 x, .int .i64 y] wz fun e w' => e = .returned (.int .i64 (Pl.farZ (fld u 3) (fld u 4) x y)) ∧ w' = wz) := fun wz => refFar_calls _ _ _ _ HU.out HXY.out wz
        generalize Pl.farZ (fld u 3) (fld u 4) x y = D at HLR HFA
        cases hd : decide (1 < D) with
        | true =>
          have HLE : Hid (lateR nw s u k x y = true) := HLR.out.trans (by rw [hd]; rfl)
          go_quiet ((go_at_call 35; exact Calls.quiet_of_same (HFA.out _)))
          go_wp2
          go_meet
          exact ⟨by rw [HLE.out], _, rfl⟩
        | false =>
          rw [hd, Bool.false_or] at HLR
          obtain ⟨G, hG⟩ : ∃ G, G = goldOf s (fld u 1) := ⟨_, rfl⟩
          have gcs : (fld u 1 = 0 ∧ w4.cell? ⟨p, 2, none⟩ = some (.int .i64 G)) ∨ (fld u 1 = 1 ∧ w4.cell? ⟨p, 3, none⟩ = some (.int .i64 G)) := by
            rcases HO2.out with hu1 | hu1
            · exact Or.inl ⟨hu1, by rw [hG, hu1]; exact HGW.out.cell 2⟩
            · exact Or.inr ⟨hu1, by rw [hG, hu1]; exact HGW.out.cell 3⟩
          have c6 : w4.cell? ⟨p, 6, none⟩ = some (.slice (some ⟨g, 0, none⟩) s.es.length c) := HGW.out.cell 6
          rw [← hG] at HLR
          clear hG
          generalize fld (ruleL nw k) 0 = C at HLR r0
          cases hgc : decide (G < C) with
          | true =>
            have HLE : Hid (lateR nw s u k x y = true) := HLR.out.trans (by rw [hgc]; rfl)
            rcases gcs with ⟨hu1, gc⟩ | ⟨hu1, gc⟩
            all_goals
              go_quiet ((go_at_call 35; exact Calls.quiet_of_same (HFA.out _)))
              go_wp2
              go_meet
              exact ⟨by rw [HLE.out], _, rfl⟩
          | false =>
            rw [hgc, Bool.false_or] at HLR
            rcases gcs with ⟨hu1, gc⟩ | ⟨hu1, gc⟩
            all_goals
              go_quiet ((go_at_call 35; exact Calls.quiet_of_same (HFA.out _)))
              go_wp2
              go_meet
              exact ⟨by rw [HLR.out], _, rfl⟩
    case rest =>
      obtain ⟨rfl, HX⟩ := hcut
      obtain ⟨X, hX⟩ : ∃ X, X = wc := ⟨_, rfl⟩
      subst hX
      have HBWX : Hid (Below w4.heap.size w4 X) := by
        obtain ⟨nq, rfl⟩ := HX.out
        exact below_drewN (Below.refl _ _) nq
      have HGX := hid (HGW.out.below HBWX.out)
      have HBXX := hid (HBX.out.below HBWX.out)
      have HBBX := hid (HBB.out X HBWX.out)
      have hsX : w1.heap.size + 3 ≤ X.heap.size := by have := HBWX.out.size; rw [HSW.out] at this; exact this
      have HFX : Hid (Fr w1 X p) := Fr.below (HBW.out.trans (HBWX.out.mono (by rw [HSW.out]; omega))) hlt
      clear HX HBWX HGW HBX HBB y1 y2 y3 y4 r0 r1 HBW HSW HGE
      cases hla : lateR nw s u k x y with
      | true =>
        have HE : Hid (buildR nw s u k x y = s) := HBR2.out.trans (by rw [hla]; rfl)
        go_wp2
        refine bodyPost_ret (results_none rfl _ _ _) rfl ?_
        exact ⟨rfl, by rw [HE.out]; exact ⟨_, _, _, HGX.out⟩, HBBX.out, HFX.out⟩
      | false =>
        have HBR3 : Hid (buildR nw s u k x y = doneR nw s u k x y) := HBR2.out.trans (by rw [hla]; rfl)
        clear HBR2
        have HLA := hid hla
        clear hla
        obtain ⟨fa, fc, rfl, hfc, hfn, hfg⟩ := HGX.out.fr.open
        have HFN := hid hfn
        have c0 : X.cell? ⟨p, 0, none⟩ = some (.bool nw) := HGX.out.cell 0
        have c1 : X.cell? ⟨p, 1, none⟩ = some (.int .i64 s.t) := HGX.out.cell 1
        have c4 : X.cell? ⟨p, 4, none⟩ = some (.int .i64 s.nx) := HGX.out.cell 4
        have c5 : X.cell? ⟨p, 5, none⟩ = some (.slice fa s.free.length fc) := HGX.out.cell 5
        have f4 := HGX.out.frozen 4
        have f5 := HGX.out.frozen 5
        cases htk : takeR nw s with
        | none =>
          have HE : Hid (buildR nw s u k x y = s) := HBR3.out.trans (by unfold doneR; rw [htk])
          unfold takeR at htk
          split at htk
          next hf =>
            split at htk
            next ht =>
              have hfl0 : s.free.length = 0 := by rw [hf]; rfl
              have ht2 : decide (topZ nw < s.nx) = true := decide_eq_true ht
              clear htk
              rw [hfl0] at c5
              go_wp2
              refine bodyPost_ret (results_none rfl _ _ _) rfl ?_
              exact ⟨rfl, by rw [HE.out]; exact ⟨_, _, _, HGX.out⟩, HBBX.out, HFX.out⟩
            · cases htk
          · cases htk
        | some r =>
          obtain ⟨id, s1⟩ := r
          have HE : Hid (buildR nw s u k x y = finR nw s.t u k x y id s1) := HBR3.out.trans (by unfold doneR; rw [htk])
          have hs1 : s1.es = s.es ∧ s1.born = s.born ∧ s1.g0 = s.g0 ∧ s1.g1 = s.g1 ∧ s1.t = s.t := by
            unfold takeR at htk
            split at htk
            · split at htk
              · cases htk
              · cases htk; exact ⟨rfl, rfl, rfl, rfl, rfl⟩
            · cases htk; exact ⟨rfl, rfl, rfl, rfl, rfl⟩
          have HS := hid hs1
          have HTK := hid htk
          have hgo : (s.free.length = 0 ∧ decide (topZ nw < s.nx) = false) ∨ s.free.length ≠ 0 := by
            unfold takeR at htk
            split at htk
            next hf =>
              split at htk
              · cases htk
              next ht => exact Or.inl ⟨by rw [hf]; rfl, decide_eq_false ht⟩
            next hf => exact Or.inr (fun e => hf (List.eq_nil_of_length_eq_zero e))
          clear hs1 htk HBR3
          clear HO HXY HU
          rcases hgo with ⟨h0, h1⟩ | h0
          · obtain ⟨rfl, HS1⟩ : s.nx = id ∧ Hid (s1 = { s with nx := s.nx + 1 }) := by
              have h2 := HTK.out
              unfold takeR at h2
              rw [if_pos (List.eq_nil_of_length_eq_zero h0), if_neg (of_decide_eq_false h1)] at h2
              cases h2
              exact ⟨rfl, rfl⟩
            obtain ⟨Y, hY⟩ : ∃ Y, X.setCell ⟨p, 4, none⟩ (.int .i64 (s.nx + 1)) = Y := ⟨_, rfl⟩
            have hwr : IntKind.i64.wrap (s.nx + 1) = s.nx + 1 := IntWalk.i64_in _ ⟨by omega, by omega⟩
            have HGY : Hid (Gr base Y p (.slice (some ⟨g, 0, none⟩) s.es.length c) (.slice fa s.free.length fc) bv nw s1) := by
              show Gr _ _ _ _ _ _ _ _
              rw [← hY, HS1.out]
              exact HGX.out.pset 4 (.int .i64 (s.nx + 1)) (s' := { s with nx := s.nx + 1 }) rfl HGX.out.er HGX.out.fr HGX.out.br HGX.out.fb
            have HBY : Hid (BoxB Y w1.heap.size nw u k) := by
              show BoxB _ _ _ _ _
              rw [← hY]
              exact HBXX.out.other (heap_setCell_other X ⟨p, 4, none⟩ _ _ (by show ¬ _; simp; omega)) (heap_setCell_other X ⟨p, 4, none⟩ _ _ (by show ¬ _; simp; omega))
            have HBBY : Hid (Below base w1 Y) := by
              show Below _ _ _
              rw [← hY]
              exact HBBX.out.setCell (p := ⟨p, 4, none⟩) hbp _
            have HFY : Hid (Fr w1 Y p) := by
              refine HFX.out.trans ?_
              have h2 := HGX.out.pset 4 (.int .i64 (s.nx + 1)) (s' := { s with nx := s.nx + 1 }) rfl HGX.out.er HGX.out.fr HGX.out.br HGX.out.fb
              rw [← hY]
              exact HGX.out.setFrame h2 rfl rfl rfl
            have hsY : w1.heap.size + 3 ≤ Y.heap.size := by rw [← hY]; simpa [go_sem] using hsX
            rw [h0] at c5
            clear HTK HS1
            have HGO : Hid (goldOf s1 (fld u 1) = goldOf s (fld u 1)) := by show _ = _; unfold goldOf; rw [HS.out.2.2.1, HS.out.2.2.2.1]
            clear hfn hfg
            obtain ⟨G, hG⟩ : ∃ G, G = goldOf s (fld u 1) := ⟨_, rfl⟩
            have hGb : 0 ≤ G ∧ G ≤ 2000 := by rw [hG]; unfold goldOf; split <;> omega
            rw [← hG] at HGO
            clear hG
            have hcost := costR_bd nw k
            obtain ⟨CO, hCO⟩ : ∃ CO, CO = fld (ruleL nw k) 0 := ⟨_, rfl⟩
            rw [← hCO] at hcost
            have HCO := hid hCO
            clear hCO
            rcases HO2.out with hu1 | hu1
            · cases nw with
              | false =>
                go_wp2_with fail
                obtain ⟨y1, y2, y3, y4, r0, r1⟩ := HBY.out.cells
                rw [← HCO.out] at r0
                have hpay := HGY.out.pay (fld u 1) CO HO2.out
                rw [HGO.out, show 2 + (fld u 1).toNat = 2 by rw [hu1]; rfl] at hpay
                obtain ⟨hG7, gc, gf, hf7⟩ := hpay
                have HF7 : Hid (Fr w1 (Y.setCell ⟨p, 2, none⟩ (.int .i64 (G - CO))).drew p) := (HFY.out.trans hf7).trans (Fr.below (Below.refl _ _).drew (by simp [go_sem]; omega))
                clear hf7
                have HG7 : Hid (GrE base (Y.setCell ⟨p, 2, none⟩ (.int .i64 (G - CO))).drew p false (payS s1 (fld u 1) CO)) := GrE.below ⟨_, _, _, hG7⟩ (Below.refl _ _).drew
                have hwg : IntKind.i64.wrap (G - CO) = G - CO := IntWalk.i64_in _ ⟨by omega, by omega⟩
                have hn1 : p ≠ w1.heap.size := by omega
                have hn2 : p ≠ w1.heap.size + 1 + 1 := by omega
                have HB7 : Hid (Below base w1 (Y.setCell ⟨p, 2, none⟩ (.int .i64 (G - CO))).drew) := (HBBY.out.setCell (p := ⟨p, 2, none⟩) hbp _).drew
                obtain ⟨PS, hPS⟩ : ∃ PS, PS = payS s1 (fld u 1) CO := ⟨_, rfl⟩
                rw [← hPS] at HG7
                have hes7 : PS.es = s1.es ∧ PS.born = s1.born := by
                  rw [hPS]
                  unfold payS
                  split
                  · exact ⟨rfl, rfl⟩
                  · exact ⟨rfl, rfl⟩
                have HEE : Hid (buildR false s u k x y = { PS with es := putR (newR false s.t s.nx (fld u 1) k x y) PS.es, born := PS.born ++ [s.nx] }) := HE.out.trans (by unfold finR; rw [← HCO.out, ← hPS, hes7.1, hes7.2])
                have hpes : PS.es.length ≤ 1000 := by rw [hes7.1, HS.out.1]; omega
                have hpbo : PS.born.length ≤ 1000 := by rw [hes7.2, HS.out.2.1]; omega
                rw [hu1] at HEE
                have hsZ : base ≤ (Y.setCell ⟨p, 2, none⟩ (.int .i64 (G - CO))).drew.heap.size := by simp [go_sem]; omega
                obtain ⟨NU, hNU⟩ : ∃ NU, NU = putR (newR false s.t s.nx 0 k x y) PS.es := ⟨_, rfl⟩
                have HPC : Hid (Calls Try.prog 140 #[.pointer (some ⟨p, 0, none⟩), .agg #[.int .i64 s.nx, .int .i64 0, .int .i64 k, .int .i64 x, .int .i64 y, .int .i64 (fld (ruleL false k) 1), .int .i64 0, .int .i64 0, .int .i64 0, .int .i64 0, .int .i64 0]] (Y.setCell ⟨p, 2, none⟩ (.int .i64 (G - CO))).drew fun e w' => e = .returned (.tuple #[]) ∧ GrE base w' p false { PS with es := NU } ∧ Below base (Y.setCell ⟨p, 2, none⟩ (.int .i64 (G - CO))).drew w' ∧ Fr (Y.setCell ⟨p, 2, none⟩ (.int .i64 (G - CO))).drew w' p) := by
                  rw [hNU]
                  exact refPut_calls base p false PS (newR false s.t s.nx 0 k x y) _ hpes hsZ HG7.out
                rw [← hNU] at HEE
                clear hG7 hes7 hPS HGY HBY HBBY HGO HCO HE hNU HFY
                clear hY
                go_region
                all_goals
                  go_wp2_with fail
                  refine HPC.out.mono ?_
                  clear HPC
                  rintro e w8 ⟨rfl, hG8, hb8, hf8⟩
                  have HF8 := hid (HF7.out.trans hf8)
                  clear hf8
                  have HB8 := hid (HB7.out.trans hb8)
                  obtain ⟨uv8, fv8, bv8, hGm8⟩ := hG8
                  obtain ⟨ba, bc, rfl, hcap8, _, _⟩ := hGm8.br.open
                  have d7 : w8.cell? ⟨p, 7, none⟩ = some (.slice ba PS.born.length bc) := hGm8.cell 7
                  have HGm8 := hid hGm8
                  have hbs8 : base ≤ w8.heap.size := Nat.le_trans hbp (Nat.le_of_lt hGm8.lt)
                  clear hGm8 hb8 gc gf y1 y2 y3 y4 r0 r1 hcap8
                  go_wp2_with (at_builtin; refine wp_nums _ rfl _ _ rfl base _ _ rfl (World.ownsRow.alloc HGm8.out.br _) (some ⟨w8.heap.size, 0, none⟩) 1 [s.nx] rfl (nums_one w8 s.nx _) (by simp) (by show PS.born.length + 1 ≤ 100000; omega) (by simp [go_sem]; omega) ?_
                               intro v9 w9 hr9 hg9 hl9
                               have hr9' := hr9
                               obtain ⟨va, vc, rfl, _, _, _⟩ := hr9'.open
                               obtain ⟨kp, ke, kf⟩ := HGm8.out.bornK s.nx hg9
                               have f7 := frozen_of_row w9 p 7 _ _ kp
                               have e7 := cell_of_row w9 p 7 _ _ _ kp
                               have HFIN := hid (HGm8.out.born hbs8 s.nx hr9 hg9 hl9)
                               clear hr9' hr9 hg9 hl9 kp ke kf)
                  go_end0
                  have hlv : (PS.born ++ [s.nx]).length = PS.born.length + 1 := by rw [List.length_append]; rfl
                  rw [hlv] at HFIN
                  exact ⟨rfl, by rw [HEE.out]; exact HFIN.out.1, HB8.out.trans HFIN.out.2.1, HF8.out.trans HFIN.out.2.2⟩
              | true =>
                go_wp2_with fail
                obtain ⟨y1, y2, y3, y4, r0, r1⟩ := HBY.out.cells
                rw [← HCO.out] at r0
                have hpay := HGY.out.pay (fld u 1) CO HO2.out
                rw [HGO.out, show 2 + (fld u 1).toNat = 2 by rw [hu1]; rfl] at hpay
                obtain ⟨hG7, gc, gf, hf7⟩ := hpay
                have HF7 : Hid (Fr w1 (Y.setCell ⟨p, 2, none⟩ (.int .i64 (G - CO))).drew p) := (HFY.out.trans hf7).trans (Fr.below (Below.refl _ _).drew (by simp [go_sem]; omega))
                clear hf7
                have HG7 : Hid (GrE base (Y.setCell ⟨p, 2, none⟩ (.int .i64 (G - CO))).drew p true (payS s1 (fld u 1) CO)) := GrE.below ⟨_, _, _, hG7⟩ (Below.refl _ _).drew
                have hwg : IntKind.i64.wrap (G - CO) = G - CO := IntWalk.i64_in _ ⟨by omega, by omega⟩
                have hn1 : p ≠ w1.heap.size := by omega
                have hn2 : p ≠ w1.heap.size + 1 + 1 := by omega
                have HB7 : Hid (Below base w1 (Y.setCell ⟨p, 2, none⟩ (.int .i64 (G - CO))).drew) := (HBBY.out.setCell (p := ⟨p, 2, none⟩) hbp _).drew
                obtain ⟨PS, hPS⟩ : ∃ PS, PS = payS s1 (fld u 1) CO := ⟨_, rfl⟩
                rw [← hPS] at HG7
                have hes7 : PS.es = s1.es ∧ PS.born = s1.born := by
                  rw [hPS]
                  unfold payS
                  split
                  · exact ⟨rfl, rfl⟩
                  · exact ⟨rfl, rfl⟩
                have HEE : Hid (buildR true s u k x y = { PS with es := putR (newR true s.t s.nx (fld u 1) k x y) PS.es, born := PS.born ++ [s.nx] }) := HE.out.trans (by unfold finR; rw [← HCO.out, ← hPS, hes7.1, hes7.2])
                have hpes : PS.es.length ≤ 1000 := by rw [hes7.1, HS.out.1]; omega
                have hpbo : PS.born.length ≤ 1000 := by rw [hes7.2, HS.out.2.1]; omega
                rw [hu1] at HEE
                have hsZ : base ≤ (Y.setCell ⟨p, 2, none⟩ (.int .i64 (G - CO))).drew.heap.size := by simp [go_sem]; omega
                obtain ⟨NU, hNU⟩ : ∃ NU, NU = putR (newR true s.t s.nx 0 k x y) PS.es := ⟨_, rfl⟩
                have HPC : Hid (Calls Try.prog 140 #[.pointer (some ⟨p, 0, none⟩), .agg #[.int .i64 s.nx, .int .i64 0, .int .i64 k, .int .i64 x, .int .i64 y, .int .i64 (fld (ruleL true k) 1), .int .i64 0, .int .i64 0, .int .i64 0, .int .i64 0, .int .i64 s.t]] (Y.setCell ⟨p, 2, none⟩ (.int .i64 (G - CO))).drew fun e w' => e = .returned (.tuple #[]) ∧ GrE base w' p true { PS with es := NU } ∧ Below base (Y.setCell ⟨p, 2, none⟩ (.int .i64 (G - CO))).drew w' ∧ Fr (Y.setCell ⟨p, 2, none⟩ (.int .i64 (G - CO))).drew w' p) := by
                  rw [hNU]
                  exact refPut_calls base p true PS (newR true s.t s.nx 0 k x y) _ hpes hsZ HG7.out
                rw [← hNU] at HEE
                clear hG7 hes7 hPS HGY HBY HBBY HGO HCO HE hNU HFY
                clear hY
                go_region
                all_goals
                  go_wp2_with fail
                  refine HPC.out.mono ?_
                  clear HPC
                  rintro e w8 ⟨rfl, hG8, hb8, hf8⟩
                  have HF8 := hid (HF7.out.trans hf8)
                  clear hf8
                  have HB8 := hid (HB7.out.trans hb8)
                  obtain ⟨uv8, fv8, bv8, hGm8⟩ := hG8
                  obtain ⟨ba, bc, rfl, hcap8, _, _⟩ := hGm8.br.open
                  have d7 : w8.cell? ⟨p, 7, none⟩ = some (.slice ba PS.born.length bc) := hGm8.cell 7
                  have HGm8 := hid hGm8
                  have hbs8 : base ≤ w8.heap.size := Nat.le_trans hbp (Nat.le_of_lt hGm8.lt)
                  clear hGm8 hb8 gc gf y1 y2 y3 y4 r0 r1 hcap8
                  go_wp2_with (at_builtin; refine wp_nums _ rfl _ _ rfl base _ _ rfl (World.ownsRow.alloc HGm8.out.br _) (some ⟨w8.heap.size, 0, none⟩) 1 [s.nx] rfl (nums_one w8 s.nx _) (by simp) (by show PS.born.length + 1 ≤ 100000; omega) (by simp [go_sem]; omega) ?_
                               intro v9 w9 hr9 hg9 hl9
                               have hr9' := hr9
                               obtain ⟨va, vc, rfl, _, _, _⟩ := hr9'.open
                               obtain ⟨kp, ke, kf⟩ := HGm8.out.bornK s.nx hg9
                               have f7 := frozen_of_row w9 p 7 _ _ kp
                               have e7 := cell_of_row w9 p 7 _ _ _ kp
                               have HFIN := hid (HGm8.out.born hbs8 s.nx hr9 hg9 hl9)
                               clear hr9' hr9 hg9 hl9 kp ke kf)
                  go_end0
                  have hlv : (PS.born ++ [s.nx]).length = PS.born.length + 1 := by rw [List.length_append]; rfl
                  rw [hlv] at HFIN
                  exact ⟨rfl, by rw [HEE.out]; exact HFIN.out.1, HB8.out.trans HFIN.out.2.1, HF8.out.trans HFIN.out.2.2⟩
            · cases nw with
              | false =>
                go_wp2_with fail
                obtain ⟨y1, y2, y3, y4, r0, r1⟩ := HBY.out.cells
                rw [← HCO.out] at r0
                have hpay := HGY.out.pay (fld u 1) CO HO2.out
                rw [HGO.out, show 2 + (fld u 1).toNat = 3 by rw [hu1]; rfl] at hpay
                obtain ⟨hG7, gc, gf, hf7⟩ := hpay
                have HF7 : Hid (Fr w1 (Y.setCell ⟨p, 3, none⟩ (.int .i64 (G - CO))).drew p) := (HFY.out.trans hf7).trans (Fr.below (Below.refl _ _).drew (by simp [go_sem]; omega))
                clear hf7
                have HG7 : Hid (GrE base (Y.setCell ⟨p, 3, none⟩ (.int .i64 (G - CO))).drew p false (payS s1 (fld u 1) CO)) := GrE.below ⟨_, _, _, hG7⟩ (Below.refl _ _).drew
                have hwg : IntKind.i64.wrap (G - CO) = G - CO := IntWalk.i64_in _ ⟨by omega, by omega⟩
                have hn1 : p ≠ w1.heap.size := by omega
                have hn2 : p ≠ w1.heap.size + 1 + 1 := by omega
                have HB7 : Hid (Below base w1 (Y.setCell ⟨p, 3, none⟩ (.int .i64 (G - CO))).drew) := (HBBY.out.setCell (p := ⟨p, 3, none⟩) hbp _).drew
                obtain ⟨PS, hPS⟩ : ∃ PS, PS = payS s1 (fld u 1) CO := ⟨_, rfl⟩
                rw [← hPS] at HG7
                have hes7 : PS.es = s1.es ∧ PS.born = s1.born := by
                  rw [hPS]
                  unfold payS
                  split
                  · exact ⟨rfl, rfl⟩
                  · exact ⟨rfl, rfl⟩
                have HEE : Hid (buildR false s u k x y = { PS with es := putR (newR false s.t s.nx (fld u 1) k x y) PS.es, born := PS.born ++ [s.nx] }) := HE.out.trans (by unfold finR; rw [← HCO.out, ← hPS, hes7.1, hes7.2])
                have hpes : PS.es.length ≤ 1000 := by rw [hes7.1, HS.out.1]; omega
                have hpbo : PS.born.length ≤ 1000 := by rw [hes7.2, HS.out.2.1]; omega
                rw [hu1] at HEE
                have hsZ : base ≤ (Y.setCell ⟨p, 3, none⟩ (.int .i64 (G - CO))).drew.heap.size := by simp [go_sem]; omega
                obtain ⟨NU, hNU⟩ : ∃ NU, NU = putR (newR false s.t s.nx 1 k x y) PS.es := ⟨_, rfl⟩
                have HPC : Hid (Calls Try.prog 140 #[.pointer (some ⟨p, 0, none⟩), .agg #[.int .i64 s.nx, .int .i64 1, .int .i64 k, .int .i64 x, .int .i64 y, .int .i64 (fld (ruleL false k) 1), .int .i64 0, .int .i64 0, .int .i64 0, .int .i64 0, .int .i64 0]] (Y.setCell ⟨p, 3, none⟩ (.int .i64 (G - CO))).drew fun e w' => e = .returned (.tuple #[]) ∧ GrE base w' p false { PS with es := NU } ∧ Below base (Y.setCell ⟨p, 3, none⟩ (.int .i64 (G - CO))).drew w' ∧ Fr (Y.setCell ⟨p, 3, none⟩ (.int .i64 (G - CO))).drew w' p) := by
                  rw [hNU]
                  exact refPut_calls base p false PS (newR false s.t s.nx 1 k x y) _ hpes hsZ HG7.out
                rw [← hNU] at HEE
                clear hG7 hes7 hPS HGY HBY HBBY HGO HCO HE hNU HFY
                clear hY
                go_region
                all_goals
                  go_wp2_with fail
                  refine HPC.out.mono ?_
                  clear HPC
                  rintro e w8 ⟨rfl, hG8, hb8, hf8⟩
                  have HF8 := hid (HF7.out.trans hf8)
                  clear hf8
                  have HB8 := hid (HB7.out.trans hb8)
                  obtain ⟨uv8, fv8, bv8, hGm8⟩ := hG8
                  obtain ⟨ba, bc, rfl, hcap8, _, _⟩ := hGm8.br.open
                  have d7 : w8.cell? ⟨p, 7, none⟩ = some (.slice ba PS.born.length bc) := hGm8.cell 7
                  have HGm8 := hid hGm8
                  have hbs8 : base ≤ w8.heap.size := Nat.le_trans hbp (Nat.le_of_lt hGm8.lt)
                  clear hGm8 hb8 gc gf y1 y2 y3 y4 r0 r1 hcap8
                  go_wp2_with (at_builtin; refine wp_nums _ rfl _ _ rfl base _ _ rfl (World.ownsRow.alloc HGm8.out.br _) (some ⟨w8.heap.size, 0, none⟩) 1 [s.nx] rfl (nums_one w8 s.nx _) (by simp) (by show PS.born.length + 1 ≤ 100000; omega) (by simp [go_sem]; omega) ?_
                               intro v9 w9 hr9 hg9 hl9
                               have hr9' := hr9
                               obtain ⟨va, vc, rfl, _, _, _⟩ := hr9'.open
                               obtain ⟨kp, ke, kf⟩ := HGm8.out.bornK s.nx hg9
                               have f7 := frozen_of_row w9 p 7 _ _ kp
                               have e7 := cell_of_row w9 p 7 _ _ _ kp
                               have HFIN := hid (HGm8.out.born hbs8 s.nx hr9 hg9 hl9)
                               clear hr9' hr9 hg9 hl9 kp ke kf)
                  go_end0
                  have hlv : (PS.born ++ [s.nx]).length = PS.born.length + 1 := by rw [List.length_append]; rfl
                  rw [hlv] at HFIN
                  exact ⟨rfl, by rw [HEE.out]; exact HFIN.out.1, HB8.out.trans HFIN.out.2.1, HF8.out.trans HFIN.out.2.2⟩
              | true =>
                go_wp2_with fail
                obtain ⟨y1, y2, y3, y4, r0, r1⟩ := HBY.out.cells
                rw [← HCO.out] at r0
                have hpay := HGY.out.pay (fld u 1) CO HO2.out
                rw [HGO.out, show 2 + (fld u 1).toNat = 3 by rw [hu1]; rfl] at hpay
                obtain ⟨hG7, gc, gf, hf7⟩ := hpay
                have HF7 : Hid (Fr w1 (Y.setCell ⟨p, 3, none⟩ (.int .i64 (G - CO))).drew p) := (HFY.out.trans hf7).trans (Fr.below (Below.refl _ _).drew (by simp [go_sem]; omega))
                clear hf7
                have HG7 : Hid (GrE base (Y.setCell ⟨p, 3, none⟩ (.int .i64 (G - CO))).drew p true (payS s1 (fld u 1) CO)) := GrE.below ⟨_, _, _, hG7⟩ (Below.refl _ _).drew
                have hwg : IntKind.i64.wrap (G - CO) = G - CO := IntWalk.i64_in _ ⟨by omega, by omega⟩
                have hn1 : p ≠ w1.heap.size := by omega
                have hn2 : p ≠ w1.heap.size + 1 + 1 := by omega
                have HB7 : Hid (Below base w1 (Y.setCell ⟨p, 3, none⟩ (.int .i64 (G - CO))).drew) := (HBBY.out.setCell (p := ⟨p, 3, none⟩) hbp _).drew
                obtain ⟨PS, hPS⟩ : ∃ PS, PS = payS s1 (fld u 1) CO := ⟨_, rfl⟩
                rw [← hPS] at HG7
                have hes7 : PS.es = s1.es ∧ PS.born = s1.born := by
                  rw [hPS]
                  unfold payS
                  split
                  · exact ⟨rfl, rfl⟩
                  · exact ⟨rfl, rfl⟩
                have HEE : Hid (buildR true s u k x y = { PS with es := putR (newR true s.t s.nx (fld u 1) k x y) PS.es, born := PS.born ++ [s.nx] }) := HE.out.trans (by unfold finR; rw [← HCO.out, ← hPS, hes7.1, hes7.2])
                have hpes : PS.es.length ≤ 1000 := by rw [hes7.1, HS.out.1]; omega
                have hpbo : PS.born.length ≤ 1000 := by rw [hes7.2, HS.out.2.1]; omega
                rw [hu1] at HEE
                have hsZ : base ≤ (Y.setCell ⟨p, 3, none⟩ (.int .i64 (G - CO))).drew.heap.size := by simp [go_sem]; omega
                obtain ⟨NU, hNU⟩ : ∃ NU, NU = putR (newR true s.t s.nx 1 k x y) PS.es := ⟨_, rfl⟩
                have HPC : Hid (Calls Try.prog 140 #[.pointer (some ⟨p, 0, none⟩), .agg #[.int .i64 s.nx, .int .i64 1, .int .i64 k, .int .i64 x, .int .i64 y, .int .i64 (fld (ruleL true k) 1), .int .i64 0, .int .i64 0, .int .i64 0, .int .i64 0, .int .i64 s.t]] (Y.setCell ⟨p, 3, none⟩ (.int .i64 (G - CO))).drew fun e w' => e = .returned (.tuple #[]) ∧ GrE base w' p true { PS with es := NU } ∧ Below base (Y.setCell ⟨p, 3, none⟩ (.int .i64 (G - CO))).drew w' ∧ Fr (Y.setCell ⟨p, 3, none⟩ (.int .i64 (G - CO))).drew w' p) := by
                  rw [hNU]
                  exact refPut_calls base p true PS (newR true s.t s.nx 1 k x y) _ hpes hsZ HG7.out
                rw [← hNU] at HEE
                clear hG7 hes7 hPS HGY HBY HBBY HGO HCO HE hNU HFY
                clear hY
                go_region
                all_goals
                  go_wp2_with fail
                  refine HPC.out.mono ?_
                  clear HPC
                  rintro e w8 ⟨rfl, hG8, hb8, hf8⟩
                  have HF8 := hid (HF7.out.trans hf8)
                  clear hf8
                  have HB8 := hid (HB7.out.trans hb8)
                  obtain ⟨uv8, fv8, bv8, hGm8⟩ := hG8
                  obtain ⟨ba, bc, rfl, hcap8, _, _⟩ := hGm8.br.open
                  have d7 : w8.cell? ⟨p, 7, none⟩ = some (.slice ba PS.born.length bc) := hGm8.cell 7
                  have HGm8 := hid hGm8
                  have hbs8 : base ≤ w8.heap.size := Nat.le_trans hbp (Nat.le_of_lt hGm8.lt)
                  clear hGm8 hb8 gc gf y1 y2 y3 y4 r0 r1 hcap8
                  go_wp2_with (at_builtin; refine wp_nums _ rfl _ _ rfl base _ _ rfl (World.ownsRow.alloc HGm8.out.br _) (some ⟨w8.heap.size, 0, none⟩) 1 [s.nx] rfl (nums_one w8 s.nx _) (by simp) (by show PS.born.length + 1 ≤ 100000; omega) (by simp [go_sem]; omega) ?_
                               intro v9 w9 hr9 hg9 hl9
                               have hr9' := hr9
                               obtain ⟨va, vc, rfl, _, _, _⟩ := hr9'.open
                               obtain ⟨kp, ke, kf⟩ := HGm8.out.bornK s.nx hg9
                               have f7 := frozen_of_row w9 p 7 _ _ kp
                               have e7 := cell_of_row w9 p 7 _ _ _ kp
                               have HFIN := hid (HGm8.out.born hbs8 s.nx hr9 hg9 hl9)
                               clear hr9' hr9 hg9 hl9 kp ke kf)
                  go_end0
                  have hlv : (PS.born ++ [s.nx]).length = PS.born.length + 1 := by rw [List.length_append]; rfl
                  rw [hlv] at HFIN
                  exact ⟨rfl, by rw [HEE.out]; exact HFIN.out.1, HB8.out.trans HFIN.out.2.1, HF8.out.trans HFIN.out.2.2⟩
          · obtain ⟨fg, rfl, hbfg, hfgl⟩ := hfg (by omega)
            obtain ⟨hid1, HS1⟩ : fld s.free (s.free.length - 1) = id ∧ Hid (s1 = { s with free := s.free.take (s.free.length - 1) }) := by
              have h2 := HTK.out
              unfold takeR at h2
              rw [if_neg (fun e => h0 (by rw [e]; rfl))] at h2
              cases h2
              exact ⟨rfl, rfl⟩
            have HC := hid (HFN.out)
            have z0 : X.cell? ⟨fg, s.free.length - 1, none⟩ = some (.int .i64 id) := by
              obtain ⟨b', o', e', hc'⟩ := HFN.out.at (i := s.free.length - 1) (by omega)
              cases e'
              rw [Nat.zero_add, hid1] at hc'
              exact hc'
            obtain ⟨xs, hxs⟩ : ∃ xs, xs = s.free.take (s.free.length - 1) := ⟨_, rfl⟩
            have hxl : xs.length = s.free.length - 1 := by rw [hxs, List.length_take]; omega
            have hxn : Nums X (some ⟨fg, 0, none⟩) xs := by
              rcases HFN.out with h | ⟨b', o', e', hc'⟩
              · rw [hxs, h]; exact Or.inl rfl
              · cases e'
                refine Or.inr ⟨fg, 0, rfl, fun i hi => ?_⟩
                rw [hc' i (by omega), hxs]
                have hil : i < s.free.length := by omega
                simp [fld, List.getD_eq_getElem?_getD, hil, show i < s.free.length - 1 by omega]
            have HXN := hid hxn
            rw [← hxs] at HS1
            have hz : ((s.free.length : Int) - 1).toNat = s.free.length - 1 := by omega
            have hzw : IntKind.i64.wrap ((s.free.length : Int) - 1) = (s.free.length : Int) - 1 := IntWalk.i64_in _ ⟨by omega, by omega⟩
            have hz1 : (0 : Int) ≤ (s.free.length : Int) - 1 := by omega
            have hz2 : (s.free.length : Int) - 1 < (s.free.length : Int) := by omega
            have hz3 : (s.free.length : Int) - 1 ≤ (s.free.length : Int) := by omega
            have hz4 : (s.free.length : Int) - 1 ≤ (fc : Int) := by omega
            have hz5 : s.free.length - 1 ≤ fc := by omega
            have hz6 : 0 < s.free.length := by omega
            have hz7 : ((s.free.length : Int) == 0) = false := by simpa using h0
            have hz8 : (s.free.length == 0) = false := by simpa using h0
            have hbsX : base ≤ X.heap.size := by omega
            clear HTK hid1 hxs hxn
            have HGO : Hid (goldOf s1 (fld u 1) = goldOf s (fld u 1)) := by show _ = _; unfold goldOf; rw [HS.out.2.2.1, HS.out.2.2.2.1]
            clear hfn hfg
            obtain ⟨G, hG⟩ : ∃ G, G = goldOf s (fld u 1) := ⟨_, rfl⟩
            have hGb : 0 ≤ G ∧ G ≤ 2000 := by rw [hG]; unfold goldOf; split <;> omega
            rw [← hG] at HGO
            clear hG
            have hcost := costR_bd nw k
            obtain ⟨CO, hCO⟩ : ∃ CO, CO = fld (ruleL nw k) 0 := ⟨_, rfl⟩
            rw [← hCO] at hcost
            have HCO := hid hCO
            clear hCO
            rcases HO2.out with hu1 | hu1
            · cases nw with
              | false =>
                go_wp2_with (at_builtin; refine wp_nums X rfl _ _ rfl base (.slice none 0 0) [] rfl (World.ownsRow_nil _ _ _ _) (some ⟨fg, 0, none⟩) fc xs (by rw [hxl]; rfl) HXN.out (fun h => by cases h) (by show 0 + xs.length ≤ 100000; omega) hbsX ?_
                             intro v5 w5 hr5 hg5 hl5
                             have hr5' := hr5
                             obtain ⟨va, vc, rfl, _, _, _⟩ := hr5'.open
                             have hT := HGX.out.take hbsX xs hr5 hg5 hl5
                             have z5 : w5.cell? ⟨p, 5, none⟩ = some (.slice (some ⟨fg, 0, none⟩) s.free.length fc) := (HGX.out.below hT.2.2.1).cell 5
                             have zf : w5.frozen? ⟨p, 5, none⟩ = false := (HGX.out.below hT.2.2.1).frozen 5
                             have HTT := hid hT
                             clear hr5 hg5 hl5 hr5' hT)
                obtain ⟨Y, hY⟩ : ∃ Y, w5.setCell ⟨p, 5, none⟩ (.slice va (s.free.length - 1) vc) = Y := ⟨_, rfl⟩
                rw [hY]
                have e5 : ([] ++ xs).length = s.free.length - 1 := hxl
                rw [e5, hY] at HTT
                have HGY : Hid (Gr base Y p (.slice (some ⟨g, 0, none⟩) s.es.length c) (.slice va (s.free.length - 1) vc) bv false s1) := by
                  show Gr _ _ _ _ _ _ _ _
                  rw [HS1.out]
                  exact HTT.out.1
                have HBY : Hid (BoxB Y w1.heap.size false u k) := by
                  show BoxB _ _ _ _ _
                  rw [← hY]
                  exact (HBXX.out.below HTT.out.2.2.1).other (heap_setCell_other w5 ⟨p, 5, none⟩ _ _ (by show ¬ _; simp; omega)) (heap_setCell_other w5 ⟨p, 5, none⟩ _ _ (by show ¬ _; simp; omega))
                have HBBY : Hid (Below base w1 Y) := HBBX.out.trans HTT.out.2.1
                have HFY : Hid (Fr w1 Y p) := HFX.out.trans HTT.out.2.2.2
                have hsY : w1.heap.size + 3 ≤ Y.heap.size := by have := HTT.out.2.2.1.size; rw [← hY]; simp [go_sem]; omega
                clear HTT HS1 z5 zf e5
                obtain ⟨y1, y2, y3, y4, r0, r1⟩ := HBY.out.cells
                rw [← HCO.out] at r0
                have hpay := HGY.out.pay (fld u 1) CO HO2.out
                rw [HGO.out, show 2 + (fld u 1).toNat = 2 by rw [hu1]; rfl] at hpay
                obtain ⟨hG7, gc, gf, hf7⟩ := hpay
                have HF7 : Hid (Fr w1 (Y.setCell ⟨p, 2, none⟩ (.int .i64 (G - CO))).drew p) := (HFY.out.trans hf7).trans (Fr.below (Below.refl _ _).drew (by simp [go_sem]; omega))
                clear hf7
                have HG7 : Hid (GrE base (Y.setCell ⟨p, 2, none⟩ (.int .i64 (G - CO))).drew p false (payS s1 (fld u 1) CO)) := GrE.below ⟨_, _, _, hG7⟩ (Below.refl _ _).drew
                have hwg : IntKind.i64.wrap (G - CO) = G - CO := IntWalk.i64_in _ ⟨by omega, by omega⟩
                have hn1 : p ≠ w1.heap.size := by omega
                have hn2 : p ≠ w1.heap.size + 1 + 1 := by omega
                have HB7 : Hid (Below base w1 (Y.setCell ⟨p, 2, none⟩ (.int .i64 (G - CO))).drew) := (HBBY.out.setCell (p := ⟨p, 2, none⟩) hbp _).drew
                obtain ⟨PS, hPS⟩ : ∃ PS, PS = payS s1 (fld u 1) CO := ⟨_, rfl⟩
                rw [← hPS] at HG7
                have hes7 : PS.es = s1.es ∧ PS.born = s1.born := by
                  rw [hPS]
                  unfold payS
                  split
                  · exact ⟨rfl, rfl⟩
                  · exact ⟨rfl, rfl⟩
                have HEE : Hid (buildR false s u k x y = { PS with es := putR (newR false s.t id (fld u 1) k x y) PS.es, born := PS.born ++ [id] }) := HE.out.trans (by unfold finR; rw [← HCO.out, ← hPS, hes7.1, hes7.2])
                have hpes : PS.es.length ≤ 1000 := by rw [hes7.1, HS.out.1]; omega
                have hpbo : PS.born.length ≤ 1000 := by rw [hes7.2, HS.out.2.1]; omega
                rw [hu1] at HEE
                have hsZ : base ≤ (Y.setCell ⟨p, 2, none⟩ (.int .i64 (G - CO))).drew.heap.size := by simp [go_sem]; omega
                obtain ⟨NU, hNU⟩ : ∃ NU, NU = putR (newR false s.t id 0 k x y) PS.es := ⟨_, rfl⟩
                have HPC : Hid (Calls Try.prog 140 #[.pointer (some ⟨p, 0, none⟩), .agg #[.int .i64 id, .int .i64 0, .int .i64 k, .int .i64 x, .int .i64 y, .int .i64 (fld (ruleL false k) 1), .int .i64 0, .int .i64 0, .int .i64 0, .int .i64 0, .int .i64 0]] (Y.setCell ⟨p, 2, none⟩ (.int .i64 (G - CO))).drew fun e w' => e = .returned (.tuple #[]) ∧ GrE base w' p false { PS with es := NU } ∧ Below base (Y.setCell ⟨p, 2, none⟩ (.int .i64 (G - CO))).drew w' ∧ Fr (Y.setCell ⟨p, 2, none⟩ (.int .i64 (G - CO))).drew w' p) := by
                  rw [hNU]
                  exact refPut_calls base p false PS (newR false s.t id 0 k x y) _ hpes hsZ HG7.out
                rw [← hNU] at HEE
                clear hG7 hes7 hPS HGY HBY HBBY HGO HCO HE hNU HFY
                clear hY
                go_region
                all_goals
                  go_wp2_with fail
                  refine HPC.out.mono ?_
                  clear HPC
                  rintro e w8 ⟨rfl, hG8, hb8, hf8⟩
                  have HF8 := hid (HF7.out.trans hf8)
                  clear hf8
                  have HB8 := hid (HB7.out.trans hb8)
                  obtain ⟨uv8, fv8, bv8, hGm8⟩ := hG8
                  obtain ⟨ba, bc, rfl, hcap8, _, _⟩ := hGm8.br.open
                  have d7 : w8.cell? ⟨p, 7, none⟩ = some (.slice ba PS.born.length bc) := hGm8.cell 7
                  have HGm8 := hid hGm8
                  have hbs8 : base ≤ w8.heap.size := Nat.le_trans hbp (Nat.le_of_lt hGm8.lt)
                  clear hGm8 hb8 gc gf y1 y2 y3 y4 r0 r1 hcap8
                  go_wp2_with (at_builtin; refine wp_nums _ rfl _ _ rfl base _ _ rfl (World.ownsRow.alloc HGm8.out.br _) (some ⟨w8.heap.size, 0, none⟩) 1 [id] rfl (nums_one w8 id _) (by simp) (by show PS.born.length + 1 ≤ 100000; omega) (by simp [go_sem]; omega) ?_
                               intro v9 w9 hr9 hg9 hl9
                               have hr9' := hr9
                               obtain ⟨va, vc, rfl, _, _, _⟩ := hr9'.open
                               obtain ⟨kp, ke, kf⟩ := HGm8.out.bornK id hg9
                               have f7 := frozen_of_row w9 p 7 _ _ kp
                               have e7 := cell_of_row w9 p 7 _ _ _ kp
                               have HFIN := hid (HGm8.out.born hbs8 id hr9 hg9 hl9)
                               clear hr9' hr9 hg9 hl9 kp ke kf)
                  go_end0
                  have hlv : (PS.born ++ [id]).length = PS.born.length + 1 := by rw [List.length_append]; rfl
                  rw [hlv] at HFIN
                  exact ⟨rfl, by rw [HEE.out]; exact HFIN.out.1, HB8.out.trans HFIN.out.2.1, HF8.out.trans HFIN.out.2.2⟩
              | true =>
                go_wp2_with (at_builtin; refine wp_nums X rfl _ _ rfl base (.slice none 0 0) [] rfl (World.ownsRow_nil _ _ _ _) (some ⟨fg, 0, none⟩) fc xs (by rw [hxl]; rfl) HXN.out (fun h => by cases h) (by show 0 + xs.length ≤ 100000; omega) hbsX ?_
                             intro v5 w5 hr5 hg5 hl5
                             have hr5' := hr5
                             obtain ⟨va, vc, rfl, _, _, _⟩ := hr5'.open
                             have hT := HGX.out.take hbsX xs hr5 hg5 hl5
                             have z5 : w5.cell? ⟨p, 5, none⟩ = some (.slice (some ⟨fg, 0, none⟩) s.free.length fc) := (HGX.out.below hT.2.2.1).cell 5
                             have zf : w5.frozen? ⟨p, 5, none⟩ = false := (HGX.out.below hT.2.2.1).frozen 5
                             have HTT := hid hT
                             clear hr5 hg5 hl5 hr5' hT)
                obtain ⟨Y, hY⟩ : ∃ Y, w5.setCell ⟨p, 5, none⟩ (.slice va (s.free.length - 1) vc) = Y := ⟨_, rfl⟩
                rw [hY]
                have e5 : ([] ++ xs).length = s.free.length - 1 := hxl
                rw [e5, hY] at HTT
                have HGY : Hid (Gr base Y p (.slice (some ⟨g, 0, none⟩) s.es.length c) (.slice va (s.free.length - 1) vc) bv true s1) := by
                  show Gr _ _ _ _ _ _ _ _
                  rw [HS1.out]
                  exact HTT.out.1
                have HBY : Hid (BoxB Y w1.heap.size true u k) := by
                  show BoxB _ _ _ _ _
                  rw [← hY]
                  exact (HBXX.out.below HTT.out.2.2.1).other (heap_setCell_other w5 ⟨p, 5, none⟩ _ _ (by show ¬ _; simp; omega)) (heap_setCell_other w5 ⟨p, 5, none⟩ _ _ (by show ¬ _; simp; omega))
                have HBBY : Hid (Below base w1 Y) := HBBX.out.trans HTT.out.2.1
                have HFY : Hid (Fr w1 Y p) := HFX.out.trans HTT.out.2.2.2
                have hsY : w1.heap.size + 3 ≤ Y.heap.size := by have := HTT.out.2.2.1.size; rw [← hY]; simp [go_sem]; omega
                clear HTT HS1 z5 zf e5
                obtain ⟨y1, y2, y3, y4, r0, r1⟩ := HBY.out.cells
                rw [← HCO.out] at r0
                have hpay := HGY.out.pay (fld u 1) CO HO2.out
                rw [HGO.out, show 2 + (fld u 1).toNat = 2 by rw [hu1]; rfl] at hpay
                obtain ⟨hG7, gc, gf, hf7⟩ := hpay
                have HF7 : Hid (Fr w1 (Y.setCell ⟨p, 2, none⟩ (.int .i64 (G - CO))).drew p) := (HFY.out.trans hf7).trans (Fr.below (Below.refl _ _).drew (by simp [go_sem]; omega))
                clear hf7
                have HG7 : Hid (GrE base (Y.setCell ⟨p, 2, none⟩ (.int .i64 (G - CO))).drew p true (payS s1 (fld u 1) CO)) := GrE.below ⟨_, _, _, hG7⟩ (Below.refl _ _).drew
                have hwg : IntKind.i64.wrap (G - CO) = G - CO := IntWalk.i64_in _ ⟨by omega, by omega⟩
                have hn1 : p ≠ w1.heap.size := by omega
                have hn2 : p ≠ w1.heap.size + 1 + 1 := by omega
                have HB7 : Hid (Below base w1 (Y.setCell ⟨p, 2, none⟩ (.int .i64 (G - CO))).drew) := (HBBY.out.setCell (p := ⟨p, 2, none⟩) hbp _).drew
                obtain ⟨PS, hPS⟩ : ∃ PS, PS = payS s1 (fld u 1) CO := ⟨_, rfl⟩
                rw [← hPS] at HG7
                have hes7 : PS.es = s1.es ∧ PS.born = s1.born := by
                  rw [hPS]
                  unfold payS
                  split
                  · exact ⟨rfl, rfl⟩
                  · exact ⟨rfl, rfl⟩
                have HEE : Hid (buildR true s u k x y = { PS with es := putR (newR true s.t id (fld u 1) k x y) PS.es, born := PS.born ++ [id] }) := HE.out.trans (by unfold finR; rw [← HCO.out, ← hPS, hes7.1, hes7.2])
                have hpes : PS.es.length ≤ 1000 := by rw [hes7.1, HS.out.1]; omega
                have hpbo : PS.born.length ≤ 1000 := by rw [hes7.2, HS.out.2.1]; omega
                rw [hu1] at HEE
                have hsZ : base ≤ (Y.setCell ⟨p, 2, none⟩ (.int .i64 (G - CO))).drew.heap.size := by simp [go_sem]; omega
                obtain ⟨NU, hNU⟩ : ∃ NU, NU = putR (newR true s.t id 0 k x y) PS.es := ⟨_, rfl⟩
                have HPC : Hid (Calls Try.prog 140 #[.pointer (some ⟨p, 0, none⟩), .agg #[.int .i64 id, .int .i64 0, .int .i64 k, .int .i64 x, .int .i64 y, .int .i64 (fld (ruleL true k) 1), .int .i64 0, .int .i64 0, .int .i64 0, .int .i64 0, .int .i64 s.t]] (Y.setCell ⟨p, 2, none⟩ (.int .i64 (G - CO))).drew fun e w' => e = .returned (.tuple #[]) ∧ GrE base w' p true { PS with es := NU } ∧ Below base (Y.setCell ⟨p, 2, none⟩ (.int .i64 (G - CO))).drew w' ∧ Fr (Y.setCell ⟨p, 2, none⟩ (.int .i64 (G - CO))).drew w' p) := by
                  rw [hNU]
                  exact refPut_calls base p true PS (newR true s.t id 0 k x y) _ hpes hsZ HG7.out
                rw [← hNU] at HEE
                clear hG7 hes7 hPS HGY HBY HBBY HGO HCO HE hNU HFY
                clear hY
                go_region
                all_goals
                  go_wp2_with fail
                  refine HPC.out.mono ?_
                  clear HPC
                  rintro e w8 ⟨rfl, hG8, hb8, hf8⟩
                  have HF8 := hid (HF7.out.trans hf8)
                  clear hf8
                  have HB8 := hid (HB7.out.trans hb8)
                  obtain ⟨uv8, fv8, bv8, hGm8⟩ := hG8
                  obtain ⟨ba, bc, rfl, hcap8, _, _⟩ := hGm8.br.open
                  have d7 : w8.cell? ⟨p, 7, none⟩ = some (.slice ba PS.born.length bc) := hGm8.cell 7
                  have HGm8 := hid hGm8
                  have hbs8 : base ≤ w8.heap.size := Nat.le_trans hbp (Nat.le_of_lt hGm8.lt)
                  clear hGm8 hb8 gc gf y1 y2 y3 y4 r0 r1 hcap8
                  go_wp2_with (at_builtin; refine wp_nums _ rfl _ _ rfl base _ _ rfl (World.ownsRow.alloc HGm8.out.br _) (some ⟨w8.heap.size, 0, none⟩) 1 [id] rfl (nums_one w8 id _) (by simp) (by show PS.born.length + 1 ≤ 100000; omega) (by simp [go_sem]; omega) ?_
                               intro v9 w9 hr9 hg9 hl9
                               have hr9' := hr9
                               obtain ⟨va, vc, rfl, _, _, _⟩ := hr9'.open
                               obtain ⟨kp, ke, kf⟩ := HGm8.out.bornK id hg9
                               have f7 := frozen_of_row w9 p 7 _ _ kp
                               have e7 := cell_of_row w9 p 7 _ _ _ kp
                               have HFIN := hid (HGm8.out.born hbs8 id hr9 hg9 hl9)
                               clear hr9' hr9 hg9 hl9 kp ke kf)
                  go_end0
                  have hlv : (PS.born ++ [id]).length = PS.born.length + 1 := by rw [List.length_append]; rfl
                  rw [hlv] at HFIN
                  exact ⟨rfl, by rw [HEE.out]; exact HFIN.out.1, HB8.out.trans HFIN.out.2.1, HF8.out.trans HFIN.out.2.2⟩
            · cases nw with
              | false =>
                go_wp2_with (at_builtin; refine wp_nums X rfl _ _ rfl base (.slice none 0 0) [] rfl (World.ownsRow_nil _ _ _ _) (some ⟨fg, 0, none⟩) fc xs (by rw [hxl]; rfl) HXN.out (fun h => by cases h) (by show 0 + xs.length ≤ 100000; omega) hbsX ?_
                             intro v5 w5 hr5 hg5 hl5
                             have hr5' := hr5
                             obtain ⟨va, vc, rfl, _, _, _⟩ := hr5'.open
                             have hT := HGX.out.take hbsX xs hr5 hg5 hl5
                             have z5 : w5.cell? ⟨p, 5, none⟩ = some (.slice (some ⟨fg, 0, none⟩) s.free.length fc) := (HGX.out.below hT.2.2.1).cell 5
                             have zf : w5.frozen? ⟨p, 5, none⟩ = false := (HGX.out.below hT.2.2.1).frozen 5
                             have HTT := hid hT
                             clear hr5 hg5 hl5 hr5' hT)
                obtain ⟨Y, hY⟩ : ∃ Y, w5.setCell ⟨p, 5, none⟩ (.slice va (s.free.length - 1) vc) = Y := ⟨_, rfl⟩
                rw [hY]
                have e5 : ([] ++ xs).length = s.free.length - 1 := hxl
                rw [e5, hY] at HTT
                have HGY : Hid (Gr base Y p (.slice (some ⟨g, 0, none⟩) s.es.length c) (.slice va (s.free.length - 1) vc) bv false s1) := by
                  show Gr _ _ _ _ _ _ _ _
                  rw [HS1.out]
                  exact HTT.out.1
                have HBY : Hid (BoxB Y w1.heap.size false u k) := by
                  show BoxB _ _ _ _ _
                  rw [← hY]
                  exact (HBXX.out.below HTT.out.2.2.1).other (heap_setCell_other w5 ⟨p, 5, none⟩ _ _ (by show ¬ _; simp; omega)) (heap_setCell_other w5 ⟨p, 5, none⟩ _ _ (by show ¬ _; simp; omega))
                have HBBY : Hid (Below base w1 Y) := HBBX.out.trans HTT.out.2.1
                have HFY : Hid (Fr w1 Y p) := HFX.out.trans HTT.out.2.2.2
                have hsY : w1.heap.size + 3 ≤ Y.heap.size := by have := HTT.out.2.2.1.size; rw [← hY]; simp [go_sem]; omega
                clear HTT HS1 z5 zf e5
                obtain ⟨y1, y2, y3, y4, r0, r1⟩ := HBY.out.cells
                rw [← HCO.out] at r0
                have hpay := HGY.out.pay (fld u 1) CO HO2.out
                rw [HGO.out, show 2 + (fld u 1).toNat = 3 by rw [hu1]; rfl] at hpay
                obtain ⟨hG7, gc, gf, hf7⟩ := hpay
                have HF7 : Hid (Fr w1 (Y.setCell ⟨p, 3, none⟩ (.int .i64 (G - CO))).drew p) := (HFY.out.trans hf7).trans (Fr.below (Below.refl _ _).drew (by simp [go_sem]; omega))
                clear hf7
                have HG7 : Hid (GrE base (Y.setCell ⟨p, 3, none⟩ (.int .i64 (G - CO))).drew p false (payS s1 (fld u 1) CO)) := GrE.below ⟨_, _, _, hG7⟩ (Below.refl _ _).drew
                have hwg : IntKind.i64.wrap (G - CO) = G - CO := IntWalk.i64_in _ ⟨by omega, by omega⟩
                have hn1 : p ≠ w1.heap.size := by omega
                have hn2 : p ≠ w1.heap.size + 1 + 1 := by omega
                have HB7 : Hid (Below base w1 (Y.setCell ⟨p, 3, none⟩ (.int .i64 (G - CO))).drew) := (HBBY.out.setCell (p := ⟨p, 3, none⟩) hbp _).drew
                obtain ⟨PS, hPS⟩ : ∃ PS, PS = payS s1 (fld u 1) CO := ⟨_, rfl⟩
                rw [← hPS] at HG7
                have hes7 : PS.es = s1.es ∧ PS.born = s1.born := by
                  rw [hPS]
                  unfold payS
                  split
                  · exact ⟨rfl, rfl⟩
                  · exact ⟨rfl, rfl⟩
                have HEE : Hid (buildR false s u k x y = { PS with es := putR (newR false s.t id (fld u 1) k x y) PS.es, born := PS.born ++ [id] }) := HE.out.trans (by unfold finR; rw [← HCO.out, ← hPS, hes7.1, hes7.2])
                have hpes : PS.es.length ≤ 1000 := by rw [hes7.1, HS.out.1]; omega
                have hpbo : PS.born.length ≤ 1000 := by rw [hes7.2, HS.out.2.1]; omega
                rw [hu1] at HEE
                have hsZ : base ≤ (Y.setCell ⟨p, 3, none⟩ (.int .i64 (G - CO))).drew.heap.size := by simp [go_sem]; omega
                obtain ⟨NU, hNU⟩ : ∃ NU, NU = putR (newR false s.t id 1 k x y) PS.es := ⟨_, rfl⟩
                have HPC : Hid (Calls Try.prog 140 #[.pointer (some ⟨p, 0, none⟩), .agg #[.int .i64 id, .int .i64 1, .int .i64 k, .int .i64 x, .int .i64 y, .int .i64 (fld (ruleL false k) 1), .int .i64 0, .int .i64 0, .int .i64 0, .int .i64 0, .int .i64 0]] (Y.setCell ⟨p, 3, none⟩ (.int .i64 (G - CO))).drew fun e w' => e = .returned (.tuple #[]) ∧ GrE base w' p false { PS with es := NU } ∧ Below base (Y.setCell ⟨p, 3, none⟩ (.int .i64 (G - CO))).drew w' ∧ Fr (Y.setCell ⟨p, 3, none⟩ (.int .i64 (G - CO))).drew w' p) := by
                  rw [hNU]
                  exact refPut_calls base p false PS (newR false s.t id 1 k x y) _ hpes hsZ HG7.out
                rw [← hNU] at HEE
                clear hG7 hes7 hPS HGY HBY HBBY HGO HCO HE hNU HFY
                clear hY
                go_region
                all_goals
                  go_wp2_with fail
                  refine HPC.out.mono ?_
                  clear HPC
                  rintro e w8 ⟨rfl, hG8, hb8, hf8⟩
                  have HF8 := hid (HF7.out.trans hf8)
                  clear hf8
                  have HB8 := hid (HB7.out.trans hb8)
                  obtain ⟨uv8, fv8, bv8, hGm8⟩ := hG8
                  obtain ⟨ba, bc, rfl, hcap8, _, _⟩ := hGm8.br.open
                  have d7 : w8.cell? ⟨p, 7, none⟩ = some (.slice ba PS.born.length bc) := hGm8.cell 7
                  have HGm8 := hid hGm8
                  have hbs8 : base ≤ w8.heap.size := Nat.le_trans hbp (Nat.le_of_lt hGm8.lt)
                  clear hGm8 hb8 gc gf y1 y2 y3 y4 r0 r1 hcap8
                  go_wp2_with (at_builtin; refine wp_nums _ rfl _ _ rfl base _ _ rfl (World.ownsRow.alloc HGm8.out.br _) (some ⟨w8.heap.size, 0, none⟩) 1 [id] rfl (nums_one w8 id _) (by simp) (by show PS.born.length + 1 ≤ 100000; omega) (by simp [go_sem]; omega) ?_
                               intro v9 w9 hr9 hg9 hl9
                               have hr9' := hr9
                               obtain ⟨va, vc, rfl, _, _, _⟩ := hr9'.open
                               obtain ⟨kp, ke, kf⟩ := HGm8.out.bornK id hg9
                               have f7 := frozen_of_row w9 p 7 _ _ kp
                               have e7 := cell_of_row w9 p 7 _ _ _ kp
                               have HFIN := hid (HGm8.out.born hbs8 id hr9 hg9 hl9)
                               clear hr9' hr9 hg9 hl9 kp ke kf)
                  go_end0
                  have hlv : (PS.born ++ [id]).length = PS.born.length + 1 := by rw [List.length_append]; rfl
                  rw [hlv] at HFIN
                  exact ⟨rfl, by rw [HEE.out]; exact HFIN.out.1, HB8.out.trans HFIN.out.2.1, HF8.out.trans HFIN.out.2.2⟩
              | true =>
                go_wp2_with (at_builtin; refine wp_nums X rfl _ _ rfl base (.slice none 0 0) [] rfl (World.ownsRow_nil _ _ _ _) (some ⟨fg, 0, none⟩) fc xs (by rw [hxl]; rfl) HXN.out (fun h => by cases h) (by show 0 + xs.length ≤ 100000; omega) hbsX ?_
                             intro v5 w5 hr5 hg5 hl5
                             have hr5' := hr5
                             obtain ⟨va, vc, rfl, _, _, _⟩ := hr5'.open
                             have hT := HGX.out.take hbsX xs hr5 hg5 hl5
                             have z5 : w5.cell? ⟨p, 5, none⟩ = some (.slice (some ⟨fg, 0, none⟩) s.free.length fc) := (HGX.out.below hT.2.2.1).cell 5
                             have zf : w5.frozen? ⟨p, 5, none⟩ = false := (HGX.out.below hT.2.2.1).frozen 5
                             have HTT := hid hT
                             clear hr5 hg5 hl5 hr5' hT)
                obtain ⟨Y, hY⟩ : ∃ Y, w5.setCell ⟨p, 5, none⟩ (.slice va (s.free.length - 1) vc) = Y := ⟨_, rfl⟩
                rw [hY]
                have e5 : ([] ++ xs).length = s.free.length - 1 := hxl
                rw [e5, hY] at HTT
                have HGY : Hid (Gr base Y p (.slice (some ⟨g, 0, none⟩) s.es.length c) (.slice va (s.free.length - 1) vc) bv true s1) := by
                  show Gr _ _ _ _ _ _ _ _
                  rw [HS1.out]
                  exact HTT.out.1
                have HBY : Hid (BoxB Y w1.heap.size true u k) := by
                  show BoxB _ _ _ _ _
                  rw [← hY]
                  exact (HBXX.out.below HTT.out.2.2.1).other (heap_setCell_other w5 ⟨p, 5, none⟩ _ _ (by show ¬ _; simp; omega)) (heap_setCell_other w5 ⟨p, 5, none⟩ _ _ (by show ¬ _; simp; omega))
                have HBBY : Hid (Below base w1 Y) := HBBX.out.trans HTT.out.2.1
                have HFY : Hid (Fr w1 Y p) := HFX.out.trans HTT.out.2.2.2
                have hsY : w1.heap.size + 3 ≤ Y.heap.size := by have := HTT.out.2.2.1.size; rw [← hY]; simp [go_sem]; omega
                clear HTT HS1 z5 zf e5
                obtain ⟨y1, y2, y3, y4, r0, r1⟩ := HBY.out.cells
                rw [← HCO.out] at r0
                have hpay := HGY.out.pay (fld u 1) CO HO2.out
                rw [HGO.out, show 2 + (fld u 1).toNat = 3 by rw [hu1]; rfl] at hpay
                obtain ⟨hG7, gc, gf, hf7⟩ := hpay
                have HF7 : Hid (Fr w1 (Y.setCell ⟨p, 3, none⟩ (.int .i64 (G - CO))).drew p) := (HFY.out.trans hf7).trans (Fr.below (Below.refl _ _).drew (by simp [go_sem]; omega))
                clear hf7
                have HG7 : Hid (GrE base (Y.setCell ⟨p, 3, none⟩ (.int .i64 (G - CO))).drew p true (payS s1 (fld u 1) CO)) := GrE.below ⟨_, _, _, hG7⟩ (Below.refl _ _).drew
                have hwg : IntKind.i64.wrap (G - CO) = G - CO := IntWalk.i64_in _ ⟨by omega, by omega⟩
                have hn1 : p ≠ w1.heap.size := by omega
                have hn2 : p ≠ w1.heap.size + 1 + 1 := by omega
                have HB7 : Hid (Below base w1 (Y.setCell ⟨p, 3, none⟩ (.int .i64 (G - CO))).drew) := (HBBY.out.setCell (p := ⟨p, 3, none⟩) hbp _).drew
                obtain ⟨PS, hPS⟩ : ∃ PS, PS = payS s1 (fld u 1) CO := ⟨_, rfl⟩
                rw [← hPS] at HG7
                have hes7 : PS.es = s1.es ∧ PS.born = s1.born := by
                  rw [hPS]
                  unfold payS
                  split
                  · exact ⟨rfl, rfl⟩
                  · exact ⟨rfl, rfl⟩
                have HEE : Hid (buildR true s u k x y = { PS with es := putR (newR true s.t id (fld u 1) k x y) PS.es, born := PS.born ++ [id] }) := HE.out.trans (by unfold finR; rw [← HCO.out, ← hPS, hes7.1, hes7.2])
                have hpes : PS.es.length ≤ 1000 := by rw [hes7.1, HS.out.1]; omega
                have hpbo : PS.born.length ≤ 1000 := by rw [hes7.2, HS.out.2.1]; omega
                rw [hu1] at HEE
                have hsZ : base ≤ (Y.setCell ⟨p, 3, none⟩ (.int .i64 (G - CO))).drew.heap.size := by simp [go_sem]; omega
                obtain ⟨NU, hNU⟩ : ∃ NU, NU = putR (newR true s.t id 1 k x y) PS.es := ⟨_, rfl⟩
                have HPC : Hid (Calls Try.prog 140 #[.pointer (some ⟨p, 0, none⟩), .agg #[.int .i64 id, .int .i64 1, .int .i64 k, .int .i64 x, .int .i64 y, .int .i64 (fld (ruleL true k) 1), .int .i64 0, .int .i64 0, .int .i64 0, .int .i64 0, .int .i64 s.t]] (Y.setCell ⟨p, 3, none⟩ (.int .i64 (G - CO))).drew fun e w' => e = .returned (.tuple #[]) ∧ GrE base w' p true { PS with es := NU } ∧ Below base (Y.setCell ⟨p, 3, none⟩ (.int .i64 (G - CO))).drew w' ∧ Fr (Y.setCell ⟨p, 3, none⟩ (.int .i64 (G - CO))).drew w' p) := by
                  rw [hNU]
                  exact refPut_calls base p true PS (newR true s.t id 1 k x y) _ hpes hsZ HG7.out
                rw [← hNU] at HEE
                clear hG7 hes7 hPS HGY HBY HBBY HGO HCO HE hNU HFY
                clear hY
                go_region
                all_goals
                  go_wp2_with fail
                  refine HPC.out.mono ?_
                  clear HPC
                  rintro e w8 ⟨rfl, hG8, hb8, hf8⟩
                  have HF8 := hid (HF7.out.trans hf8)
                  clear hf8
                  have HB8 := hid (HB7.out.trans hb8)
                  obtain ⟨uv8, fv8, bv8, hGm8⟩ := hG8
                  obtain ⟨ba, bc, rfl, hcap8, _, _⟩ := hGm8.br.open
                  have d7 : w8.cell? ⟨p, 7, none⟩ = some (.slice ba PS.born.length bc) := hGm8.cell 7
                  have HGm8 := hid hGm8
                  have hbs8 : base ≤ w8.heap.size := Nat.le_trans hbp (Nat.le_of_lt hGm8.lt)
                  clear hGm8 hb8 gc gf y1 y2 y3 y4 r0 r1 hcap8
                  go_wp2_with (at_builtin; refine wp_nums _ rfl _ _ rfl base _ _ rfl (World.ownsRow.alloc HGm8.out.br _) (some ⟨w8.heap.size, 0, none⟩) 1 [id] rfl (nums_one w8 id _) (by simp) (by show PS.born.length + 1 ≤ 100000; omega) (by simp [go_sem]; omega) ?_
                               intro v9 w9 hr9 hg9 hl9
                               have hr9' := hr9
                               obtain ⟨va, vc, rfl, _, _, _⟩ := hr9'.open
                               obtain ⟨kp, ke, kf⟩ := HGm8.out.bornK id hg9
                               have f7 := frozen_of_row w9 p 7 _ _ kp
                               have e7 := cell_of_row w9 p 7 _ _ _ kp
                               have HFIN := hid (HGm8.out.born hbs8 id hr9 hg9 hl9)
                               clear hr9' hr9 hg9 hl9 kp ke kf)
                  go_end0
                  have hlv : (PS.born ++ [id]).length = PS.born.length + 1 := by rw [List.length_append]; rfl
                  rw [hlv] at HFIN
                  exact ⟨rfl, by rw [HEE.out]; exact HFIN.out.1, HB8.out.trans HFIN.out.2.1, HF8.out.trans HFIN.out.2.2⟩

end Go.Proofs.Ytgiieepfhohmhaa
