/- The reference's game: blows and diggings. -/
import Derived.Test.YtgiieepfhohmhaaRefT
import Derived.Test.YtgiieepfhohmhaaGiA
namespace Go.Proofs.Ytgiieepfhohmhaa
open Go.RowKit Go.Maps

abbrev zero20 : Array Value := #[.int .i64 0, .int .i64 0, .int .i64 0, .int .i64 0, .int .i64 0, .int .i64 0, .int .i64 0, .int .i64 0, .int .i64 0, .int .i64 0, .int .i64 0, .int .i64 0, .int .i64 0, .int .i64 0, .int .i64 0, .int .i64 0, .int .i64 0, .int .i64 0, .int .i64 0, .int .i64 0]
theorem lessB_new (w : World) : LessB (w.alloc (.cells zero20 248)) w.heap.size (List.replicate 20 0) := heap_alloc_new w _

theorem minR (r x : Int) : min r x = if x < r then x else r := by
  split <;> omega
/- What stays to be read: who was there. -/
def OX (w : World) (B : Nat) (oa : Option Addr) (oc : Nat) (old : List Int) : Prop := w.cell? ⟨B, 0, none⟩ = some (.slice oa old.length oc) ∧ Nums w oa old
theorem OX.below {w w' : World} {B : Nat} {oa : Option Addr} {oc : Nat} {old : List Int} (h : OX w B oa oc old) (hb : Below w.heap.size w w') : OX w' B oa oc old :=
  ⟨(hb.cell (p := ⟨B, 0, none⟩) (World.block_lt_of_cell? w _ h.1)).trans h.1, h.2.below hb⟩
theorem OX.set {w : World} {B : Nat} {oa : Option Addr} {oc : Nat} {old : List Int} (h : OX w B oa oc old) {q : Nat} (hB : B ≠ q) (hq : ∀ b o, oa = some ⟨b, o, none⟩ → b ≠ q) (j : Nat) (v : Value) : OX (w.setCell ⟨q, j, none⟩ v) B oa oc old :=
  ⟨(cell_setOther hB 0 j v).trans h.1, h.2.setOther hq j v⟩
theorem Gr.rg {base : Nat} {w : World} {p : Nat} {ea : Option Addr} {c : Nat} {fv bv : Value} {nw : Bool} {s : St} (h : Gr base w p (.slice ea s.es.length c) fv bv nw s) (hn : s.es.length ≤ 1000) : RG w p nw ea c s.es := by
  obtain ⟨ea', c', e, _, hr, _⟩ := h.er.open
  cases e
  exact ⟨h.cell 0, h.cell 6, hr, hn⟩
theorem Gr.other {base : Nat} {w : World} {p : Nat} {uv fv bv : Value} {nw : Bool} {s : St} (h : Gr base w p uv fv bv nw s) {q : Nat} (ha : Apart w p q) (j : Nat) (v : Value) : Gr base (w.setCell ⟨q, j, none⟩ v) p uv fv bv nw s := by
  obtain ⟨a1, a2, a3, a4⟩ := h.apart.1 ha
  have ho : ∀ k, k ≠ q → (w.setCell ⟨q, j, none⟩ v).heap[k]? = w.heap[k]? := fun k hk => heap_setCell_other w ⟨q, j, none⟩ k v (fun e => hk e)
  exact ⟨(ho p (fun e => a1 e.symm)).trans h.hp, row_other h.er fun g hg => ho g fun e => a2 (by rw [hg, e]), row_other h.fr fun g hg => ho g fun e => a3 (by rw [hg, e]), row_other h.br fun g hg => ho g fun e => a4 (by rw [hg, e]), h.bp, h.fb⟩

def hurtF (es : List (List Int)) (LS : List Int) (k : Nat) : List Int := updR 11 (rec es k) 5 (fld (rec es k) 5 - fld LS k)
def hurtR (es : List (List Int)) (LS : List Int) : List (List Int) := idxK (hurtF es LS) es es.length
def burySR (nw : Bool) (a : List (List Int) × List Int) (u : List Int) : List (List Int) × List Int :=
  if 0 < fld u 5 then (a.1 ++ [u], a.2) else if nw = true then a else (a.1, a.2 ++ [fld u 0])
def buryK (nw : Bool) (H : List (List Int)) (fr : List Int) (k : Nat) : List (List Int) × List Int := (H.take k).foldl (burySR nw) ([], fr)
theorem buryK_zero (nw : Bool) (H : List (List Int)) (fr : List Int) : buryK nw H fr 0 = ([], fr) := rfl
theorem buryK_succ {nw : Bool} {H : List (List Int)} {fr : List Int} {k : Nat} (h : k < H.length) : buryK nw H fr (k + 1) = burySR nw (buryK nw H fr k) (rec H k) := by
  unfold buryK
  rw [List.take_add_one, rec_at h, List.foldl_append]
  simp [h]
theorem buryK_len (nw : Bool) (H : List (List Int)) (fr : List Int) : ∀ k, k ≤ H.length → (buryK nw H fr k).1.length ≤ k ∧ (buryK nw H fr k).2.length ≤ fr.length + k := by
  intro k
  induction k with
  | zero => intro _; simp [buryK]
  | succ k ih =>
    intro hk
    have := ih (by omega)
    rw [buryK_succ (by omega)]
    unfold burySR
    split
    · simp; omega
    · split
      · omega
      · simp; omega
theorem Gr.keepU {base B2 : Nat} {w w' : World} {p : Nat} {uv fv bv v : Value} {nw : Bool} {s : St} {l : List (List Int)} (h : Gr base w p uv fv bv nw s) (hv : RowU B2 w v l) (hu : ∀ k, uv.ownBlock = some k → k < B2) (hg : w.grownBy w' v.ownBlock) : Gr base w' p uv fv bv nw s := by
  refine ⟨(hg.block p h.lt (fun e => row_ne hv h.hp (by decide) e.symm)).trans h.hp, World.ownsRow.kept h.er hg ?_, World.ownsRow.kept h.fr hg (row_row_ne h.fr hv (by decide)), World.ownsRow.kept h.br hg (row_row_ne h.br hv (by decide)), h.bp, h.fb⟩
  cases e : uv.ownBlock with
  | none => exact Or.inl rfl
  | some k =>
    refine Or.inr fun e2 => ?_
    have h1 := hu k e
    have h2 := (World.ownsRow.lt hv k e2.symm).1
    omega
theorem LessB.keepU {B2 : Nat} {w w' : World} {L : Nat} {ls : List Int} {v : Value} {l : List (List Int)} (h : LessB w L ls) (hv : RowU B2 w v l) (hL : L < B2) (hg : w.grownBy w' v.ownBlock) : LessB w' L ls :=
  (hg.block L (Array.getElem?_eq_some_iff.1 h).1 (fun e => by have := (World.ownsRow.lt hv L e.symm).1; omega)).trans h
theorem Gr.freed {base : Nat} {w w9 : World} {p : Nat} {uv fv bv v9 : Value} {nw : Bool} {s : St} (h0 : Gr base w p uv fv bv nw s) (hbs : base ≤ w.heap.size) (id : Int) (hr9 : NRow base w9 v9 (s.free ++ [id])) (hg9 : (w.alloc (.cells #[.int .i64 id] 3)).grownBy w9 fv.ownBlock)
    (hl9 : v9.ownBlock = fv.ownBlock ∨ v9.ownBlock = some (w.alloc (.cells #[.int .i64 id] 3)).heap.size) :
    Gr base (w9.setCell ⟨p, 5, none⟩ v9) p uv v9 bv nw { s with free := s.free ++ [id] } ∧ Below base w (w9.setCell ⟨p, 5, none⟩ v9) ∧ (∀ B2 v l, RowU B2 w v l → RowU B2 (w9.setCell ⟨p, 5, none⟩ v9) v l) ∧ (∀ L ls, LessB w L ls → LessB (w9.setCell ⟨p, 5, none⟩ v9) L ls) := by
  have hal : Below w.heap.size w (w.alloc (.cells #[.int .i64 id] 3)) := (Below.refl _ w).alloc (Nat.le_refl _) _
  have h := h0.below hal
  have kp : w9.heap[p]? = some (.cells (refC nw s fv uv bv) 147) := (hg9.block p h.lt (fun e => row_ne h.fr h.hp (by decide) e.symm)).trans h.hp
  have ke : RowU base w9 uv s.es := World.ownsRow.kept h.er hg9 (row_row_ne h.er h.fr (by decide))
  have hbf : bv.ownBlock = none ∨ bv.ownBlock ≠ fv.ownBlock := by
    cases e : bv.ownBlock with
    | none => exact Or.inl rfl
    | some k =>
      refine Or.inr fun e2 => ?_
      rcases h.fb with x | x
      · rw [x] at e2; cases e2
      · exact x (e2.symm.trans e.symm)
  have kb : NRow base w9 bv s.born := World.ownsRow.kept h.br hg9 hbf
  have ho : ∀ k, k ≠ p → (w9.setCell ⟨p, 5, none⟩ v9).heap[k]? = w9.heap[k]? := fun k hk => heap_setCell_other w9 ⟨p, 5, none⟩ k v9 (fun e => hk e)
  have hfb : v9.ownBlock = none ∨ v9.ownBlock ≠ bv.ownBlock := by
    rcases hl9 with e | e
    · rw [e]; exact h.fb
    · refine Or.inr fun x => ?_
      have h2 := (World.ownsRow.lt h0.br _ (x.symm.trans e)).2
      simp [go_sem] at h2
      omega
  refine ⟨⟨heap_setCell_same w9 p 5 _ _ v9 kp, row_other ke fun g hg => ho g fun e => row_ne ke kp (by decide) (by rw [hg, e]), row_other hr9 fun g hg => ho g fun e => row_ne hr9 kp (by decide) (by rw [hg, e]), row_other kb fun g hg => ho g fun e => row_ne kb kp (by decide) (by rw [hg, e]), h.bp, hfb⟩, ?_, fun B2 v l hv => ?_, fun L ls hL => ?_⟩
  · exact ((((Below.refl _ w).alloc hbs _).grown hg9 (by simp [go_sem]; omega) (fun k hk => (World.ownsRow.lt h0.fr k hk).1))).setCell (p := ⟨p, 5, none⟩) h.bp _
  · have hv1 : RowU B2 (w.alloc (.cells #[.int .i64 id] 3)) v l := World.ownsRow.alloc hv _
    have hv2 : RowU B2 w9 v l := World.ownsRow.kept hv1 hg9 (row_row_ne hv1 h.fr (by decide))
    exact row_other hv2 fun g hg => ho g fun e => row_ne hv2 kp (by decide) (by rw [hg, e])
  · have hL1 := hL.below hal
    have hL2 : LessB w9 L ls := (hg9.block L (Array.getElem?_eq_some_iff.1 hL1).1 (fun e => row_ne h.fr hL1 (by decide) e.symm)).trans hL1
    refine (ho L fun e => ?_).trans hL2
    have h3 := hL2
    unfold LessB at h3
    rw [e, kp] at h3
    have h4 : (147 : TypeId) = 248 := by
      injection h3 with h5
      injection h5
    exact absurd h4 (by decide)
def idleF (A : List (List Int)) (u : List Int) : List Int := if (decide (0 < fld u 9) && decide (whoZ (fld u 9) A < 0)) = true then tellR u 0 0 0 0 else u
def toilT (nw : Bool) (s : St) (old : List Int) : List Int × Int × Int := toilK nw s.es old (s.g0, s.g1) s.es.length
def toilBk (nw : Bool) (s : St) (old : List Int) : List (List Int) × List Int := buryK nw (hurtR s.es (toilT nw s old).1) s.free s.es.length
def toilR (nw : Bool) (s : St) (old : List Int) : St := { s with t := s.t + 1, g0 := (toilT nw s old).2.1, g1 := (toilT nw s old).2.2, free := (toilBk nw s old).2, es := (toilBk nw s old).1.map (idleF (toilBk nw s old).1) }
theorem whoZ_cong {A B : List (List Int)} (hl : A.length = B.length) (h : ∀ j, j < A.length → fld (rec A j) 0 = fld (rec B j) 0) (id : Int) : whoZ id A = whoZ id B := by
  have e : A.map (fun r => fld r 0) = B.map (fun r => fld r 0) := by
    refine List.ext_getElem (by simpa using hl) fun j h1 h2 => ?_
    have hj : j < A.length := by simpa using h1
    have := h j hj
    rw [rec_at hj, rec_at (show j < B.length by omega)] at this
    simpa using this
  have f : ∀ l : List (List Int), l.findIdx? (fun r => fld r 0 == id) = (l.map (fun r => fld r 0)).findIdx? (fun x => x == id) := fun l => by rw [List.findIdx?_map]; rfl
  unfold whoZ
  rw [f A, f B, e]
theorem idleF_id (A : List (List Int)) (u : List Int) : fld (idleF A u) 0 = fld u 0 := by
  unfold idleF
  split
  · rfl
  · rfl
theorem whoZ_idle (A : List (List Int)) (k : Nat) (hk : k ≤ A.length) (id : Int) : whoZ id (mapK (idleF A) A k) = whoZ id A := by
  refine whoZ_cong (mapK_length _ _ hk) (fun j hj => ?_) id
  rw [mapK_length _ _ hk] at hj
  rw [mapK_rec _ _ hk hj]
  split
  · exact idleF_id A _
  · rfl

set_option maxRecDepth 100000 in
set_option maxHeartbeats 16000000 in
theorem toil_calls (base p : Nat) (nw : Bool) (s : St) (uv fv bv : Value) (old : List Int) (oa : Option Addr) (oc B : Nat) (w : World) (hG : Gr base w p uv fv bv nw s) (hbs : base ≤ w.heap.size) (hn : s.es.length ≤ 20) (hol : old.length ≤ 1000) (hox : OX w B oa oc old)
    (hoa : ∀ b o, oa = some ⟨b, o, none⟩ → b < w.heap.size ∧ Apart w p b) (hB : Apart w p B) (hok : ∀ i, i < s.es.length → isB old (fld (rec s.es i) 0) = true → fld (rec s.es i) 9 ≠ 0 → ToilOk s.es (rec s.es i)) (hg0 : 0 ≤ s.g0 ∧ s.g0 ≤ 2000) (hg1 : 0 ≤ s.g1 ∧ s.g1 ≤ 2000) (hhp : ∀ i, i < s.es.length → 0 ≤ fld (rec s.es i) 5 ∧ fld (rec s.es i) 5 ≤ 1000) (hfl : s.free.length ≤ 1000) (ht : 0 ≤ s.t ∧ s.t ≤ 1000) :
    Calls Try.prog 143 #[.pointer (some ⟨p, 0, none⟩), .func (.func 141) #[] #[.pointer (some ⟨B, 0, none⟩)]] w fun e w' => e = .returned (.tuple #[]) ∧ GrE base w' p nw (toilR nw s old) ∧ Below base w w' := by
  obtain ⟨ea, c, rfl, hcap, hre, hge⟩ := hG.er.open
  have c0 : w.cell? ⟨p, 0, none⟩ = some (.bool nw) := hG.cell 0
  have hlt := hG.lt
  have hbp := hG.bp
  obtain ⟨W, hW⟩ : ∃ W, w.alloc (.cells zero20 248) = W := ⟨_, rfl⟩
  have hbW : Below w.heap.size w W := by rw [← hW]; exact (Below.refl _ w).alloc (Nat.le_refl _) _
  have HLW : Hid (LessB W w.heap.size (List.replicate 20 0)) := by show LessB _ _ _; rw [← hW]; exact lessB_new w
  have hsW : W.heap.size = w.heap.size + 1 := by rw [← hW]; simp [go_sem]
  have HGW := hid (hG.below hbW)
  have HOW := hid (hox.below hbW)
  have HBW := hid hbW
  have HG := hid hG
  have HGE := hid hge
  have HOA := hid hoa
  have hBl : B < w.heap.size := World.block_lt_of_cell? w _ hox.1
  have HBA := hid hB
  have HOK := hid hok
  have HHP := hid hhp
  have HBC := hid (bounds_calls p nw w c0)
  have HZ := hid (ToilB.zero (g := (s.g0, s.g1)) hg0 hg1)
  have hrich := richZ_bd nw
  have HQL : Hid (∀ b o, oa = some ⟨b, o, none⟩ → b ≠ w.heap.size ∧ b ≠ p) := fun b o e => ⟨by have := (hoa b o e).1; omega, (hoa b o e).2.1⟩
  clear hG hre hge hox hoa hB hok hhp hbW c0
  go_enter Try.func143, Try.ntmps143
  go_wp2_with fail
  refine HBC.out.mono ?_
  clear HBC
  rintro e w1 ⟨rfl, rfl⟩
  go_wp2_with fail
  clear hW
  go_loopw [7] (fun i wr => ∃ k : Nat, k ≤ s.es.length ∧ i = .int .i64 k ∧ Hid (ToilB k (toilK nw s.es old (s.g0, s.g1) k)) ∧ Hid (Gr base wr p (.slice ea s.es.length c) fv bv nw { s with g0 := (toilK nw s.es old (s.g0, s.g1) k).2.1, g1 := (toilK nw s.es old (s.g0, s.g1) k).2.2 }) ∧ Hid (LessB wr w1.heap.size (toilK nw s.es old (s.g0, s.g1) k).1) ∧ Hid (OX wr B oa oc old) ∧ Hid (Below base w1 wr) ∧ Hid (w1.heap.size < wr.heap.size)) (fun i _ => s.es.length - (intOf i).toNat)
  case atStart => exact ⟨0, by omega, rfl, HZ, HGW, HLW, HOW, HBW.out.mono hbs, by show w1.heap.size < W.heap.size; omega⟩
  case round =>
    obtain ⟨k, hk, rfl, HTB, HGr, HLr, HOr, HBr, HSr⟩ := hrel
    have q6 : wr.cell? ⟨p, 6, none⟩ = some (.slice ea s.es.length c) := HGr.out.cell 6
    have q0 : wr.cell? ⟨p, 0, none⟩ = some (.bool nw) := HGr.out.cell 0
    by_cases hkl : k < s.es.length
    · have hkz : (k : Int) < (s.es.length : Int) := by omega
      obtain ⟨g, rfl, hbg, hgl⟩ := HGE.out (by omega)
      obtain ⟨hcc, _⟩ := HGr.out.er.cells (i := k) hkl
      have HTS := hid (toilK_succ (nw := nw) (old := old) (g := (s.g0, s.g1)) hkl)
      have HOKk := hid (HOK.out k hkl)
      have hwb := whoZ_bd (fld (rec s.es k) 9) s.es
      change ∀ j, j < 11 → wr.cell? ⟨g, k * 11 + j, none⟩ = some (.int .i64 (fld (rec s.es k) j)) at hcc
      have HTN : Hid (ToilB (k + 1) (toilS nw s.es old (toilK nw s.es old (s.g0, s.g1) k) (rec s.es k))) := HTB.out.step _ (by unfold whoN; omega)
      generalize rec s.es k = u at hcc HTS HOKk hwb HTN
      generalize toilK nw s.es old (s.g0, s.g1) k = T at HTB HGr HLr HTS HTN
      obtain ⟨LS, G0, G1⟩ := T
      have x0 : wr.cell? ⟨g, k * 11, none⟩ = some (.int .i64 (fld u 0)) := hcc 0 (by omega)
      have x1 := hcc 1 (by omega)
      have x2 := hcc 2 (by omega)
      have x3 := hcc 3 (by omega)
      have x4 := hcc 4 (by omega)
      have x5 := hcc 5 (by omega)
      have x6 := hcc 6 (by omega)
      have x7 := hcc 7 (by omega)
      have x8 := hcc 8 (by omega)
      have x9 := hcc 9 (by omega)
      have x10 := hcc 10 (by omega)
      clear hcc
      obtain ⟨X, hX⟩ : ∃ X, wr.alloc (.cells (unitC u) 110) = X := ⟨_, rfl⟩
      have hbX : Below wr.heap.size wr X := by rw [← hX]; exact (Below.refl _ wr).alloc (Nat.le_refl _) _
      have hxX : X.heap[wr.heap.size]? = some (.cells (unitC u) 110) := by rw [← hX]; exact heap_alloc_new _ _
      have y0 : X.cell? ⟨wr.heap.size, 0, none⟩ = some (.int .i64 (fld u 0)) := unit_box hxX 0
      have HOX := hid (HOr.out.below hbX)
      have HGX := hid (HGr.out.below hbX)
      have HLX := hid (HLr.out.below hbX)
      have HBX : Hid (Below base w1 X) := HBr.out.trans (hbX.mono (by have := HBr.out.size; omega))
      have HSX : Hid (w1.heap.size < X.heap.size) := Nat.lt_of_lt_of_le HSr.out hbX.size
      have HXX := hid hxX
      clear hbX hxX
      go_wp2_with fail
      refine (is_calls B oc oa old (fld u 0) X hol HOX.out.1 HOX.out.2).mono ?_
      rintro e w7 ⟨rfl, rfl⟩
      clear hX x0 x1 x2 x3 x4 x5 x6 x7 x8 x9 x10 y0
      have HSTAY : Hid (∀ X, Below w7.heap.size w7 X → toilS nw s.es old (LS, G0, G1) u = (LS, G0, G1) →
          Hid (ToilB (k + 1) (toilK nw s.es old (s.g0, s.g1) (k + 1))) ∧ Hid (Gr base X p (.slice (some ⟨g, 0, none⟩) s.es.length c) fv bv nw { s with g0 := (toilK nw s.es old (s.g0, s.g1) (k + 1)).2.1, g1 := (toilK nw s.es old (s.g0, s.g1) (k + 1)).2.2 }) ∧ Hid (LessB X w1.heap.size (toilK nw s.es old (s.g0, s.g1) (k + 1)).1) ∧ Hid (OX X B oa oc old) ∧ Hid (Below base w1 X) ∧ Hid (w1.heap.size < X.heap.size)) := fun X hb h => by
        rw [HTS.out, h]
        refine ⟨?_, HGX.out.below hb, HLX.out.below hb, HOX.out.below hb, HBX.out.trans (hb.mono (by have := HSX.out; omega)), Nat.lt_of_lt_of_le HSX.out hb.size⟩
        have h' := HTN.out
        rw [h] at h'
        exact h'
      have HTV : Hid (toilS nw s.es old (LS, G0, G1) u = if (!isB old (fld u 0) || (fld u 9 == 0)) = true then (LS, G0, G1)
  else if nearR nw s.es u = true then
    if fld u 6 = 2 then (LS.set (whoN s.es u) (fld LS (whoN s.es u) + fld (ruleL nw (fld u 2)) 3), (G0, G1)) else (LS.set (whoN s.es u) (fld LS (whoN s.es u) + fld (ruleL nw (fld u 2)) 5), digG nw u (G0, G1))
  else (LS, G0, G1)) := rfl
      have y9 : w7.cell? ⟨wr.heap.size, 9, none⟩ = some (.int .i64 (fld u 9)) := unit_box HXX.out 9
      generalize isB old (fld u 0) = iv at HTV HOKk ⊢
      cases iv with
      | false =>
        have HC := hid (HSTAY.out w7 (Below.refl _ _) (HTV.out.trans (by simp)))
        go_wp2
        go_roundw
        case rel => exact ⟨k + 1, by omega, by go_num, HC.out⟩
        case measure => simp [intOf]; omega
      | true =>
      cases h9 : fld u 9 == 0 with
      | true =>
        have HC := hid (HSTAY.out w7 (Below.refl _ _) (HTV.out.trans (by rw [h9]; simp)))
        go_wp2
        go_roundw
        case rel => exact ⟨k + 1, by omega, by go_num, HC.out⟩
        case measure => simp [intOf]; omega
      | false =>
      have HT := hid (HOKk.out rfl (by simpa using h9))
      rw [h9] at HTV
      have HTV2 : Hid (toilS nw s.es old (LS, G0, G1) u = if nearR nw s.es u = true then
    if fld u 6 = 2 then (LS.set (whoN s.es u) (fld LS (whoN s.es u) + fld (ruleL nw (fld u 2)) 3), (G0, G1)) else (LS.set (whoN s.es u) (fld LS (whoN s.es u) + fld (ruleL nw (fld u 2)) 5), digG nw u (G0, G1))
  else (LS, G0, G1)) := HTV.out
      clear HTV HOKk
      have HNC := hid (refNear_calls p nw (some ⟨g, 0, none⟩) c s.es u w7 (Gr.rg (s := { s with g0 := G0, g1 := G1 }) HGX.out (by show s.es.length ≤ 1000; omega)) HT.out.on HT.out.who HT.out.tgt)
      have y0 : w7.cell? ⟨wr.heap.size, 0, none⟩ = some (.int .i64 (fld u 0)) := unit_box HXX.out 0
      have y1 : w7.cell? ⟨wr.heap.size, 1, none⟩ = some (.int .i64 (fld u 1)) := unit_box HXX.out 1
      have y2 : w7.cell? ⟨wr.heap.size, 2, none⟩ = some (.int .i64 (fld u 2)) := unit_box HXX.out 2
      have y3 : w7.cell? ⟨wr.heap.size, 3, none⟩ = some (.int .i64 (fld u 3)) := unit_box HXX.out 3
      have y4 : w7.cell? ⟨wr.heap.size, 4, none⟩ = some (.int .i64 (fld u 4)) := unit_box HXX.out 4
      have y5 : w7.cell? ⟨wr.heap.size, 5, none⟩ = some (.int .i64 (fld u 5)) := unit_box HXX.out 5
      have y6 : w7.cell? ⟨wr.heap.size, 6, none⟩ = some (.int .i64 (fld u 6)) := unit_box HXX.out 6
      have y7 : w7.cell? ⟨wr.heap.size, 7, none⟩ = some (.int .i64 (fld u 7)) := unit_box HXX.out 7
      have y8 : w7.cell? ⟨wr.heap.size, 8, none⟩ = some (.int .i64 (fld u 8)) := unit_box HXX.out 8
      have y10 : w7.cell? ⟨wr.heap.size, 10, none⟩ = some (.int .i64 (fld u 10)) := unit_box HXX.out 10
      generalize nearR nw s.es u = nv at HTV2 HNC
      go_wp2_with fail
      refine HNC.out.mono ?_
      clear HNC y0 y1 y2 y3 y4 y5 y6 y7 y8 y9 y10
      rintro e w8 ⟨rfl, hb8⟩
      have HB8 := hid hb8
      clear hb8
      cases nv with
      | false =>
        have HC := hid (HSTAY.out w8 HB8.out HTV2.out)
        go_wp2
        go_roundw
        case rel => exact ⟨k + 1, by omega, by go_num, HC.out⟩
        case measure => simp [intOf]; omega
      | true =>
      have HTV3 : Hid (toilS nw s.es old (LS, G0, G1) u = if fld u 6 = 2 then (LS.set (whoN s.es u) (fld LS (whoN s.es u) + fld (ruleL nw (fld u 2)) 3), (G0, G1)) else (LS.set (whoN s.es u) (fld LS (whoN s.es u) + fld (ruleL nw (fld u 2)) 5), digG nw u (G0, G1))) := HTV2.out
      clear HTV2 HSTAY
      have hp8 : p < w8.heap.size := (HGX.out.below HB8.out).lt
      have hr8 : wr.heap.size < w8.heap.size := Nat.lt_of_lt_of_le (Array.getElem?_eq_some_iff.1 HXX.out).1 HB8.out.size
      have K0 : ∀ w', Below w8.heap.size w8 w' → w'.cell? ⟨p, 0, none⟩ = some (.bool nw) := fun w' hb' => ((HGX.out.below HB8.out).below hb').cell 0
      have K2 : ∀ w', Below w8.heap.size w8 w' → w'.cell? ⟨wr.heap.size, 2, none⟩ = some (.int .i64 (fld u 2)) := fun w' hb' => unit_box ((hb'.block _ hr8).trans ((HB8.out.block _ (Array.getElem?_eq_some_iff.1 HXX.out).1).trans HXX.out)) 2
      go_wp2_with fail
      go_cut [11, 12] (fun r _ wx => ∃ b, r = .pointer (some ⟨b, 0, none⟩) ∧ Hid (wx.heap[b]? = some (.cells (ruleCR nw (fld u 2)) 44) ∧ Below w8.heap.size w8 wx ∧ w8.heap.size ≤ b))
      case first =>
        go_region_held3 (fun w' => Below w8.heap.size w8 w') (first | (rw [six6_nest]; exact below_six6 (by assumption) (Nat.le_refl _)) | with_reducible exact (Below.refl _ _).drew | with_reducible exact HB2.out | exact Below.alloc (by assumption) (Below.size (by assumption)) _)
          (first
            | (go_at_call 27; refine (ruleB_calls nw (fld u 2) _).mono ?_; rintro e w2 ⟨rfl, hb2⟩; have hq : Box6 w2 w8.heap.size := Box6.below (Box6.new w8.drew) hb2; have HB2 : Hid (Below w8.heap.size w8 w2) := Below.trans (by assumption) (hb2.mono (Below.size (by assumption))); have HQ := hid hq; obtain ⟨q0, q1, q2, q3, q4, q5, qf⟩ := hq.zero; clear hb2 hq)
            | (go_at_call 27; refine (ruleB_calls nw (fld u 2) _).mono ?_; rintro e w2 ⟨rfl, hb2⟩; have HB2 : Hid (Below w8.heap.size w8 w2) := Below.trans (by assumption) (hb2.mono (Below.size (by assumption))); clear hb2))
        all_goals
          go_wp2
          go_meet
          first
            | exact ⟨_, rfl, Box6.fill HQ.out _ _ _ _ _ _, below_six6 HB2.out (Nat.le_refl _), Nat.le_refl _⟩
            | exact ⟨_, rfl, heap_alloc_new _ _, HB2.out.alloc HB2.out.size _, HB2.out.size⟩
      case rest =>
        obtain ⟨b, rfl, HM⟩ := hcut
        obtain ⟨X, hX⟩ : ∃ X, X = wc := ⟨_, rfl⟩
        subst hX
        have hb7 : Below w7.heap.size w7 X := HB8.out.trans (HM.out.2.1.mono HB8.out.size)
        have HGc := hid (HGX.out.below hb7)
        have HLc := hid (HLX.out.below hb7)
        have HOc := hid (HOX.out.below hb7)
        have HBc : Hid (Below base w1 X) := HBX.out.trans (hb7.mono (by have := HSX.out; omega))
        have hszX : w1.heap.size < X.heap.size := Nat.lt_of_lt_of_le HSX.out hb7.size
        have hwr1 : w1.heap.size < wr.heap.size := HSr.out
        have hbL : b ≠ w1.heap.size := by have := HM.out.2.2; omega
        have hbpp : b ≠ p := by have := HM.out.2.2; omega
        have hXb : X.heap[wr.heap.size]? = some (.cells (unitC u) 110) := (hb7.block _ (Array.getElem?_eq_some_iff.1 HXX.out).1).trans HXX.out
        have y1 : X.cell? ⟨wr.heap.size, 1, none⟩ = some (.int .i64 (fld u 1)) := unit_box hXb 1
        have y6 : X.cell? ⟨wr.heap.size, 6, none⟩ = some (.int .i64 (fld u 6)) := unit_box hXb 6
        have y9 : X.cell? ⟨wr.heap.size, 9, none⟩ = some (.int .i64 (fld u 9)) := unit_box hXb 9
        have r3 : X.cell? ⟨b, 3, none⟩ = some (.int .i64 (fld (ruleL nw (fld u 2)) 3)) := cell_of_row X _ 3 _ _ _ HM.out.1
        have r5 : X.cell? ⟨b, 5, none⟩ = some (.int .i64 (fld (ruleL nw (fld u 2)) 5)) := cell_of_row X _ 5 _ _ _ HM.out.1
        have HWC := hid (who_calls p c (some ⟨g, 0, none⟩) s.es (fld u 9) X (by omega) (HGc.out.cell 6) (rowU_recs HGc.out.er))
        have HAP : Hid (∀ Z s', Gr base Z p (.slice (some ⟨g, 0, none⟩) s.es.length c) fv bv nw s' → Apart Z p w1.heap.size) := fun Z s' h => h.apart.2 ⟨by omega, fun e => by have := (World.ownsRow.lt HG.out.er _ e).2; omega, fun e => by have := (World.ownsRow.lt HG.out.fr _ e).2; omega, fun e => by have := (World.ownsRow.lt HG.out.br _ e).2; omega⟩
        obtain ⟨j, hj⟩ : ∃ j : Nat, whoZ (fld u 9) s.es = j := ⟨(whoZ (fld u 9) s.es).toNat, by have := HT.out.who; omega⟩
        have hjn : whoN s.es u = j := by unfold whoN; rw [hj]; rfl
        rw [hj] at HWC hwb
        rw [hjn] at HTV3
        have hj20 : j < 20 := by omega
        have hjz : (j : Int) < 20 := by omega
        have hjz0 : (0 : Int) ≤ (j : Int) := by omega
        have hlen : LS.length = 20 := HTB.out.len
        have l0 : X.cell? ⟨w1.heap.size, j, none⟩ = some (.int .i64 (fld LS j)) := HLc.out.cell (by omega)
        have lf : X.frozen? ⟨w1.heap.size, j, none⟩ = false := HLc.out.frozen j
        have hLj := HTB.out.lo j
        change 0 ≤ fld LS j ∧ fld LS j ≤ 3 * (k : Int) at hLj
        have hgb0 : 0 ≤ G0 ∧ G0 ≤ 2000 := HTB.out.g0
        have hgb1 : 0 ≤ G1 ∧ G1 ≤ 2000 := HTB.out.g1
        have hhr := harmR_bd nw (fld u 2)
        have HOWN := hid HT.out.own
        have HMb := hid HM.out.2.2
        clear HM hb7 K0 K2 HXX hXb hj hjn q0 q6 HT
        go_wp2_with fail
        refine HWC.out.mono ?_
        clear HWC
        rintro e w9 ⟨rfl, rfl⟩
        clear y9
        by_cases h6 : fld u 6 = 2
        · have b6 : (fld u 6 == 2) = true := by simpa using h6
          have HV : Hid (toilS nw s.es old (LS, G0, G1) u = (LS.set j (fld LS j + fld (ruleL nw (fld u 2)) 3), G0, G1)) := HTV3.out.trans (by rw [if_pos h6])
          obtain ⟨HH, hHH⟩ : ∃ HH, HH = fld (ruleL nw (fld u 2)) 3 := ⟨_, rfl⟩
          rw [← hHH] at HV r3 hhr
          clear hHH h6 HTV3
          have hwv : IntKind.i64.wrap (fld LS j + HH) = fld LS j + HH := IntWalk.i64_in _ ⟨by omega, by omega⟩
          go_wp2_with fail
          go_region
          all_goals
            go_wp2
            go_roundw
            case rel =>
              refine ⟨k + 1, by omega, by go_num, ?_, ?_, ?_, ?_, ?_, ?_⟩
              · rw [HTS.out]; exact HTN
              · rw [HTS.out, HV.out]
                exact (HGc.out.other (HAP.out _ _ HGc.out) j _).below (Below.refl _ _).drew
              · rw [HTS.out, HV.out]
                exact (HLc.out.set j _).below (Below.refl _ _).drew
              · exact (HOc.out.set (q := w1.heap.size) (by omega) (fun b o e => (HQL.out b o e).1) j _).below (Below.refl _ _).drew
              · exact (HBc.out.setCell (p := ⟨w1.heap.size, j, none⟩) hbs _).drew
              · show w1.heap.size < _; simpa [go_sem] using hszX
            case measure => simp [intOf]; omega
        · have b6 : (fld u 6 == 2) = false := by simpa using h6
          have HV : Hid (toilS nw s.es old (LS, G0, G1) u = (LS.set j (fld LS j + fld (ruleL nw (fld u 2)) 5), digG nw u (G0, G1))) := HTV3.out.trans (by rw [if_neg h6])
          have HDG : Hid (digG nw u (G0, G1) = if fld u 1 = 0 then (min (richZ nw) (G0 + fld (ruleL nw (fld u 2)) 5), G1) else (G0, min (richZ nw) (G1 + fld (ruleL nw (fld u 2)) 5))) := rfl
          have hown := HOWN.out h6
          obtain ⟨HH, hHH⟩ : ∃ HH, HH = fld (ruleL nw (fld u 2)) 5 := ⟨_, rfl⟩
          rw [← hHH] at HV r5 hhr HDG
          clear hHH h6 HTV3 r3
          have hwv : IntKind.i64.wrap (fld LS j + HH) = fld LS j + HH := IntWalk.i64_in _ ⟨by omega, by omega⟩
          have hw0 : IntKind.i64.wrap (G0 + HH) = G0 + HH := IntWalk.i64_in _ ⟨by omega, by omega⟩
          have hw1 : IntKind.i64.wrap (G1 + HH) = G1 + HH := IntWalk.i64_in _ ⟨by omega, by omega⟩
          have HGY : Hid (Gr base (w9.setCell ⟨w1.heap.size, j, none⟩ (.int .i64 (fld LS j + HH))).drew p (.slice (some ⟨g, 0, none⟩) s.es.length c) fv bv nw { s with g0 := G0, g1 := G1 }) := (HGc.out.other (HAP.out _ _ HGc.out) j _).below (Below.refl _ _).drew
          have HLY : Hid (LessB (w9.setCell ⟨w1.heap.size, j, none⟩ (.int .i64 (fld LS j + HH))).drew w1.heap.size (LS.set j (fld LS j + HH))) := (HLc.out.set j _).below (Below.refl _ _).drew
          have HOY : Hid (OX (w9.setCell ⟨w1.heap.size, j, none⟩ (.int .i64 (fld LS j + HH))).drew B oa oc old) := (HOc.out.set (q := w1.heap.size) (by omega) (fun b o e => (HQL.out b o e).1) j _).below (Below.refl _ _).drew
          have HBY : Hid (Below base w1 (w9.setCell ⟨w1.heap.size, j, none⟩ (.int .i64 (fld LS j + HH))).drew) := (HBc.out.setCell (p := ⟨w1.heap.size, j, none⟩) hbs _).drew
          have hszY : w1.heap.size < (w9.setCell ⟨w1.heap.size, j, none⟩ (.int .i64 (fld LS j + HH))).drew.heap.size := by simpa [go_sem] using hszX
          have y1' : (w9.setCell ⟨w1.heap.size, j, none⟩ (.int .i64 (fld LS j + HH))).drew.cell? ⟨wr.heap.size, 1, none⟩ = some (.int .i64 (fld u 1)) := (cell_setOther (w := w9) (B := wr.heap.size) (q := w1.heap.size) (by omega) 1 j _).trans y1
          have r5' : (w9.setCell ⟨w1.heap.size, j, none⟩ (.int .i64 (fld LS j + HH))).drew.cell? ⟨b, 5, none⟩ = some (.int .i64 HH) := (cell_setOther (w := w9) (B := b) (q := w1.heap.size) hbL 5 j _).trans r5
          rcases hown with hu1 | hu1
          · have HV2 : Hid (toilS nw s.es old (LS, G0, G1) u = (LS.set j (fld LS j + HH), min (richZ nw) (G0 + HH), G1)) := HV.out.trans (by rw [HDG.out, if_pos hu1])
            have HGZ : Hid (Gr base ((w9.setCell ⟨w1.heap.size, j, none⟩ (.int .i64 (fld LS j + HH))).drew.setCell ⟨p, 2, none⟩ (.int .i64 (min (richZ nw) (G0 + HH)))) p (.slice (some ⟨g, 0, none⟩) s.es.length c) fv bv nw { s with g0 := min (richZ nw) (G0 + HH), g1 := G1 }) := HGY.out.pset 2 (.int .i64 (min (richZ nw) (G0 + HH))) (s' := { s with g0 := min (richZ nw) (G0 + HH), g1 := G1 }) rfl HGY.out.er HGY.out.fr HGY.out.br HGY.out.fb
            have gc := HGY.out.cell 2
            have gf := HGY.out.frozen 2
            change _ = some (Value.int .i64 G0) at gc
            go_wp2_with fail
            go_region
            all_goals
              obtain ⟨Y, hY⟩ : ∃ Y, Y = (w9.setCell ⟨w1.heap.size, j, none⟩ (.int .i64 (fld LS j + HH))).drew := ⟨_, rfl⟩
              rw [← hY] at HGY HLY HOY HBY hszY y1' r5' gc gf HGZ ⊢
              clear hY l0 lf y1 r5 y6
              go_wp2_with fail
              go_region
              all_goals
                go_wp2
                go_roundw
                case rel =>
                  rw [← minR]
                  refine ⟨k + 1, by omega, by go_num, ?_, ?_, ?_, ?_, ?_, ?_⟩
                  · rw [HTS.out]; exact HTN
                  · rw [HTS.out, HV2.out]
                    exact HGZ.out.below (Below.refl _ _).drew
                  · rw [HTS.out, HV2.out]
                    exact (HLY.out.other (by omega) _ _).below (Below.refl _ _).drew
                  · exact (HOY.out.set (q := p) HBA.out.1 (fun b o e => (HQL.out b o e).2) _ _).below (Below.refl _ _).drew
                  · exact (HBY.out.setCell (p := ⟨p, 2, none⟩) hbp _).drew
                  · show w1.heap.size < _; simpa [go_sem] using hszY
                case measure => simp [intOf]; omega
          · have HV2 : Hid (toilS nw s.es old (LS, G0, G1) u = (LS.set j (fld LS j + HH), G0, min (richZ nw) (G1 + HH))) := HV.out.trans (by rw [HDG.out, if_neg (by omega)])
            have HGZ : Hid (Gr base ((w9.setCell ⟨w1.heap.size, j, none⟩ (.int .i64 (fld LS j + HH))).drew.setCell ⟨p, 3, none⟩ (.int .i64 (min (richZ nw) (G1 + HH)))) p (.slice (some ⟨g, 0, none⟩) s.es.length c) fv bv nw { s with g0 := G0, g1 := min (richZ nw) (G1 + HH) }) := HGY.out.pset 3 (.int .i64 (min (richZ nw) (G1 + HH))) (s' := { s with g0 := G0, g1 := min (richZ nw) (G1 + HH) }) rfl HGY.out.er HGY.out.fr HGY.out.br HGY.out.fb
            have gc := HGY.out.cell 3
            have gf := HGY.out.frozen 3
            change _ = some (Value.int .i64 G1) at gc
            go_wp2_with fail
            go_region
            all_goals
              obtain ⟨Y, hY⟩ : ∃ Y, Y = (w9.setCell ⟨w1.heap.size, j, none⟩ (.int .i64 (fld LS j + HH))).drew := ⟨_, rfl⟩
              rw [← hY] at HGY HLY HOY HBY hszY y1' r5' gc gf HGZ ⊢
              clear hY l0 lf y1 r5 y6
              go_wp2_with fail
              go_region
              all_goals
                go_wp2
                go_roundw
                case rel =>
                  rw [← minR]
                  refine ⟨k + 1, by omega, by go_num, ?_, ?_, ?_, ?_, ?_, ?_⟩
                  · rw [HTS.out]; exact HTN
                  · rw [HTS.out, HV2.out]
                    exact HGZ.out.below (Below.refl _ _).drew
                  · rw [HTS.out, HV2.out]
                    exact (HLY.out.other (by omega) _ _).below (Below.refl _ _).drew
                  · exact (HOY.out.set (q := p) HBA.out.1 (fun b o e => (HQL.out b o e).2) _ _).below (Below.refl _ _).drew
                  · exact (HBY.out.setCell (p := ⟨p, 3, none⟩) hbp _).drew
                  · show w1.heap.size < _; simpa [go_sem] using hszY
                case measure => simp [intOf]; omega
    · have hkz : ¬ (k : Int) < (s.es.length : Int) := by omega
      have hke : k = s.es.length := by omega
      subst hke
      generalize hTK : toilK nw s.es old (s.g0, s.g1) s.es.length = T at HTB HGr HLr
      have HTK := hid hTK
      clear hTK
      obtain ⟨LS, G0, G1⟩ := T
      obtain ⟨H, hH⟩ : ∃ H, H = hurtR s.es LS := ⟨_, rfl⟩
      have hHl : H.length = s.es.length := by rw [hH]; exact idxK_len _ _ _
      have HHR : Hid (∀ k, k < s.es.length → rec H k = hurtF s.es LS k) := fun k hk => by rw [hH]; unfold hurtR; rw [idxK_rec _ _ _ hk, if_pos hk]
      have HH := hid hH
      have hlen : LS.length = 20 := HTB.out.len
      have HLO : Hid (∀ j, 0 ≤ fld LS j ∧ fld LS j ≤ 60) := fun j => by
        have h := HTB.out.lo j
        change 0 ≤ fld LS j ∧ fld LS j ≤ 3 * ((s.es.length : Nat) : Int) at h
        omega
      have HBK := hid (buryK_len nw H s.free)
      have hfvl := HGr.out.fr.open
      clear hH HTB hfvl
      have hsz0 : w1.heap.size < wr.heap.size := HSr.out
      obtain ⟨W2, hW2⟩ : ∃ W2, W2 = wr := ⟨_, rfl⟩
      rw [← hW2] at hsz0
      go_wp2_with fail
      clear q0 q6
      go_loopw [14, 15] (fun v i wr => ∃ (k : Nat) (v0 : Value), k ≤ s.es.length ∧ v0 = v ∧ i = .int .i64 k ∧ Hid (∃ fv', Gr base wr p (.slice ea s.es.length c) fv' bv nw { s with g0 := G0, g1 := G1, free := (buryK nw H s.free k).2 }) ∧ Hid (RowU W2.heap.size wr v0 (buryK nw H s.free k).1) ∧ Hid (LessB wr w1.heap.size LS) ∧ Hid (Below base w1 wr) ∧ Hid (W2.heap.size ≤ wr.heap.size)) (fun _ i _ => s.es.length - (intOf i).toNat)
      case atStart => exact ⟨0, _, by omega, rfl, rfl, ⟨fv, HGr.out⟩, World.ownsRow_nil _ _ _ _, HLr, HBr, by show W2.heap.size ≤ _; rw [hW2]; exact Nat.le_refl _⟩
      case round =>
        clear HGr HLr HBr HOr HSr hW2
        obtain ⟨k, v, hk, rfl, rfl, HGr, HRr, HLr, HBr, HSr⟩ := hrel
        obtain ⟨fv', hGr⟩ := HGr.out
        have HGm := hid hGr
        have q6 : wr.cell? ⟨p, 6, none⟩ = some (.slice ea s.es.length c) := hGr.cell 6
        clear HGr hGr
        by_cases hkl : k < s.es.length
        · have hkz2 : (k : Int) < (s.es.length : Int) := by omega
          obtain ⟨g, rfl, hbg, hgl⟩ := HGE.out (by omega)
          obtain ⟨hcc, _⟩ := HGm.out.er.cells (i := k) hkl
          change ∀ j, j < 11 → wr.cell? ⟨g, k * 11 + j, none⟩ = some (.int .i64 (fld (rec s.es k) j)) at hcc
          have HBS := hid (buryK_succ (nw := nw) (fr := s.free) (show k < H.length by omega))
          have hbl := HBK.out k (by omega)
          rw [HHR.out k hkl] at HBS
          have HUF : Hid (hurtF s.es LS k = updR 11 (rec s.es k) 5 (fld (rec s.es k) 5 - fld LS k)) := rfl
          have hpk := HHP.out k hkl
          generalize rec s.es k = u at hcc HUF hpk
          have x0 : wr.cell? ⟨g, k * 11, none⟩ = some (.int .i64 (fld u 0)) := hcc 0 (by omega)
          have x1 := hcc 1 (by omega)
          have x2 := hcc 2 (by omega)
          have x3 := hcc 3 (by omega)
          have x4 := hcc 4 (by omega)
          have x5 := hcc 5 (by omega)
          have x6 := hcc 6 (by omega)
          have x7 := hcc 7 (by omega)
          have x8 := hcc 8 (by omega)
          have x9 := hcc 9 (by omega)
          have x10 := hcc 10 (by omega)
          clear hcc
          have l0 : wr.cell? ⟨w1.heap.size, k, none⟩ = some (.int .i64 (fld LS k)) := HLr.out.cell (by omega)
          have hLk := HLO.out k
          have hk20 : (k : Int) < 20 := by omega
          have hLlt : w1.heap.size < wr.heap.size := by have := HSr.out; omega
          have hLne : w1.heap.size ≠ wr.heap.size := by omega
          have hwp : IntKind.i64.wrap (fld u 5 - fld LS k) = fld u 5 - fld LS k := IntWalk.i64_in _ ⟨by omega, by omega⟩
          go_wp2_with fail
          go_region
          all_goals
            obtain ⟨h, hh⟩ : ∃ h, h = updR 11 u 5 (fld u 5 - fld LS k) := ⟨_, rfl⟩
            obtain ⟨Z, hZ⟩ : ∃ Z, Z = (wr.alloc (.cells (unitC (updR 11 u 5 (fld u 5 - fld LS k))) 110)).drew := ⟨_, rfl⟩
            have hZ' : Z = (wr.alloc (.cells #[.int .i64 (fld u 0), .int .i64 (fld u 1), .int .i64 (fld u 2), .int .i64 (fld u 3), .int .i64 (fld u 4), .int .i64 (fld u 5 - fld LS k), .int .i64 (fld u 6), .int .i64 (fld u 7), .int .i64 (fld u 8), .int .i64 (fld u 9), .int .i64 (fld u 10)] 110)).drew := hZ
            rw [← hZ']
            rw [← hh] at hZ
            have h5 : fld u 5 - fld LS k = fld h 5 := by rw [hh]; rfl
            have HHF : Hid (hurtF s.es LS k = h) := HUF.out.trans hh.symm
            have hbZ : Below wr.heap.size wr Z := by rw [hZ]; exact ((Below.refl _ wr).alloc (Nat.le_refl _) _).drew
            have hxZ : Z.heap[wr.heap.size]? = some (.cells (unitC h) 110) := by
              have h1 : (wr.alloc (.cells (unitC h) 110)).drew.heap[wr.heap.size]? = some (.cells (unitC h) 110) := heap_alloc_new wr _
              rw [hZ]
              exact h1
            have HGZ := hid (HGm.out.below hbZ)
            have HLZ := hid (HLr.out.below hbZ)
            have HRZ := hid (row_below HRr.out hbZ)
            have HBZ : Hid (Below base w1 Z) := HBr.out.trans (hbZ.mono (by omega))
            have hszZ : W2.heap.size ≤ Z.heap.size := Nat.le_trans HSr.out hbZ.size
            have z0 : Z.cell? ⟨wr.heap.size, 0, none⟩ = some (.int .i64 (fld h 0)) := unit_box hxZ 0
            have z1 : Z.cell? ⟨wr.heap.size, 1, none⟩ = some (.int .i64 (fld h 1)) := unit_box hxZ 1
            have z2 : Z.cell? ⟨wr.heap.size, 2, none⟩ = some (.int .i64 (fld h 2)) := unit_box hxZ 2
            have z3 : Z.cell? ⟨wr.heap.size, 3, none⟩ = some (.int .i64 (fld h 3)) := unit_box hxZ 3
            have z4 : Z.cell? ⟨wr.heap.size, 4, none⟩ = some (.int .i64 (fld h 4)) := unit_box hxZ 4
            have z5 : Z.cell? ⟨wr.heap.size, 5, none⟩ = some (.int .i64 (fld h 5)) := unit_box hxZ 5
            have z6 : Z.cell? ⟨wr.heap.size, 6, none⟩ = some (.int .i64 (fld h 6)) := unit_box hxZ 6
            have z7 : Z.cell? ⟨wr.heap.size, 7, none⟩ = some (.int .i64 (fld h 7)) := unit_box hxZ 7
            have z8 : Z.cell? ⟨wr.heap.size, 8, none⟩ = some (.int .i64 (fld h 8)) := unit_box hxZ 8
            have z9 : Z.cell? ⟨wr.heap.size, 9, none⟩ = some (.int .i64 (fld h 9)) := unit_box hxZ 9
            have z10 : Z.cell? ⟨wr.heap.size, 10, none⟩ = some (.int .i64 (fld h 10)) := unit_box hxZ 10
            rw [HHF.out] at HBS
            clear hZ hZ' hh hxZ x0 x1 x2 x3 x4 x5 x6 x7 x8 x9 x10 l0 q6 HUF hbZ hwp hpk hLk
            rw [h5]
            clear h5 HHF
            have HBV : Hid (buryK nw H s.free (k + 1) = if 0 < fld h 5 then ((buryK nw H s.free k).1 ++ [h], (buryK nw H s.free k).2) else if nw = true then buryK nw H s.free k else ((buryK nw H s.free k).1, (buryK nw H s.free k).2 ++ [fld h 0])) := HBS.out
            have HUB : Hid (∀ k, (Value.slice (some ⟨g, 0, none⟩) s.es.length c).ownBlock = some k → k < W2.heap.size) := fun k e => by have := (World.ownsRow.lt HG.out.er k e).2; omega
            clear HBS
            generalize hbk : buryK nw H s.free k = bk at HBV HGZ HRZ HRr HGm hbl
            clear hbk
            obtain ⟨lv, fr⟩ := bk
            by_cases hp : 0 < fld h 5
            · have HB1 : Hid (buryK nw H s.free (k + 1) = (lv ++ [h], fr)) := HBV.out.trans (by rw [if_pos hp])
              go_wp2_with (at_builtin; refine wp_rowsU (Z.alloc (.cells (unitC h) 110)) rfl (.tmp 132) (.tmp 134) (by rfl) W2.heap.size v lv (by rfl) (World.ownsRow.alloc HRZ.out _) (some ⟨Z.heap.size, 0, none⟩) 1 [h] (by rfl) (recs_oneU Z h _) (by simp) (by have := hbl.1; simp at this ⊢; omega) (by simp [go_sem]; omega) ?_
                           intro v9 w9 hr9 hg9 _
                           have HR9 := hid hr9
                           have HG9 := hid hg9
                           clear hr9 hg9)
              go_roundw
              case rel =>
                have hal : Below Z.heap.size Z (Z.alloc (.cells (unitC h) 110)) := (Below.refl _ _).alloc (Nat.le_refl _) _
                have hRA : RowU W2.heap.size (Z.alloc (.cells (unitC h) 110)) v lv := World.ownsRow.alloc HRZ.out _
                refine ⟨k + 1, _, by omega, rfl, by go_num, ?_, ?_, ?_, ?_, ?_⟩
                · rw [HB1.out]; exact ⟨_, (HGZ.out.below hal).keepU hRA HUB.out HG9.out⟩
                · rw [HB1.out]; exact HR9
                · exact (HLZ.out.below hal).keepU hRA (by omega) HG9.out
                · exact (HBZ.out.alloc (by omega) _).grown HG9.out (by simp [go_sem]; omega) (fun k hk => by have := (World.ownsRow.lt HRZ.out k hk).1; omega)
                · show W2.heap.size ≤ _
                  have := HG9.out.size
                  simp [go_sem] at this
                  omega
              case measure => simp [intOf]; omega
            · have q0 : Z.cell? ⟨p, 0, none⟩ = some (.bool nw) := HGZ.out.cell 0
              have hp2 : decide (0 < fld h 5) = false := decide_eq_false hp
              cases nw with
              | true =>
                have HB1 : Hid (buryK true H s.free (k + 1) = (lv, fr)) := HBV.out.trans (by rw [if_neg hp]; rfl)
                go_wp2
                go_roundw
                case rel =>
                  refine ⟨k + 1, _, by omega, rfl, by go_num, ?_, ?_, ?_, ?_, ?_⟩
                  · rw [HB1.out]; exact ⟨_, HGZ.out⟩
                  · rw [HB1.out]; exact HRZ
                  · exact HLZ
                  · exact HBZ
                  · exact hszZ
                case measure => simp [intOf]; omega
              | false =>
                have HB1 : Hid (buryK false H s.free (k + 1) = (lv, fr ++ [fld h 0])) := HBV.out.trans (by rw [if_neg hp]; rfl)
                obtain ⟨fa, fc, rfl, hfcap, hfn, _⟩ := HGZ.out.fr.open
                have q5 : Z.cell? ⟨p, 5, none⟩ = some (.slice fa fr.length fc) := HGZ.out.cell 5
                obtain ⟨id, hid0⟩ : ∃ id, id = fld h 0 := ⟨_, rfl⟩
                rw [← hid0] at z0 HB1
                clear hid0 hfn HBV
                have hpZ : p < Z.heap.size := HGZ.out.lt
                have hpZ2 : p ≠ Z.heap.size := by omega
                have hfrl : fr.length ≤ 2000 := by have := hbl.2; simp at this; omega
                go_wp2_with fail
                go_region_law (refine step_nums rfl (.tmp 145) (.tmp 148) rfl base (.slice fa fr.length fc) fr (by simp [Act.eval]) (World.ownsRow.alloc HGZ.out.fr _) (some ⟨Z.heap.size, 0, none⟩) 1 [id] (by simp [Act.eval]) (nums_one Z id _) (by simp) (by simp; omega) (by simp [go_sem]; omega) ?_
                               intro v' w' hr hg hl
                               have hl1 : (fr ++ [id]).length = fr.length + 1 := by simp
                               have hr' := hr
                               obtain ⟨va, vc, rfl, _, _, _⟩ := hr'.open
                               rw [hl1] at hr hl ⊢
                               have hg' : (Z.alloc (.cells #[.int .i64 id] 3)).grownBy w' (Value.slice fa fr.length fc).ownBlock := ⟨hg.os, hg.tape, hg.output, hg.size, hg.block⟩
                               have HGR := hid hg'
                               have HRN := hid hr
                               have HLN : Hid ((Value.slice va (fr.length + 1) vc).ownBlock = (Value.slice fa fr.length fc).ownBlock ∨ (Value.slice va (fr.length + 1) vc).ownBlock = some (Z.alloc (.cells #[.int .i64 id] 3)).heap.size) := hl
                               have kp := ((HGZ.out.below ((Below.refl _ Z).alloc (Nat.le_refl _) (.cells #[.int .i64 id] 3)))).hp
                               have kp2 := (hg'.block p (by have := HGZ.out.lt; simp [go_sem]; omega) (fun e => row_ne HGZ.out.fr HGZ.out.hp (by decide) e.symm)).trans kp
                               have f5 := frozen_of_row w' p 5 _ _ kp2
                               have d5 : w'.cell? ⟨p, 5, none⟩ = some (.slice fa fr.length fc) := cell_of_row w' p 5 _ _ _ kp2
                               clear hr hr' hg hl hg' kp kp2 hl1)
                all_goals
                  go_wp2
                  go_roundw
                  case rel =>
                    obtain ⟨a1, a2, a3, a4⟩ := HGZ.out.freed (by omega) id HRN.out HGR.out HLN.out
                    refine ⟨k + 1, _, by omega, rfl, by go_num, ?_, ?_, ?_, ?_, ?_⟩
                    · rw [HB1.out]; exact ⟨_, a1⟩
                    · rw [HB1.out]; exact a3 _ _ _ HRZ.out
                    · exact a4 _ _ HLZ.out
                    · exact HBZ.out.trans a2
                    · show W2.heap.size ≤ _
                      have := a2.size
                      omega
                  case measure => simp [intOf]; omega
        · have hkz2 : ¬ (k : Int) < (s.es.length : Int) := by omega
          have hke : k = s.es.length := by omega
          subst hke
          generalize hbk : buryK nw H s.free s.es.length = bk at HGm HRr
          have HRES : Hid (toilR nw s old = { s with t := s.t + 1, g0 := G0, g1 := G1, free := bk.2, es := bk.1.map (idleF bk.1) }) := by
            have e1 : toilT nw s old = (LS, G0, G1) := HTK.out
            have e2 : toilBk nw s old = bk := by unfold toilBk; rw [e1, ← hbk, HH.out]
            show _ = _
            unfold toilR
            rw [e2, e1]
          have hbl := HBK.out s.es.length (by omega)
          rw [hbk] at hbl
          clear hbk
          obtain ⟨lv, fr⟩ := bk
          have hlvl : lv.length ≤ 20 := by have := hbl.1; simp at this; omega
          obtain ⟨va, vc, rfl, _, _, hvg⟩ := HRr.out.open
          have hG3 := HGm.out.pset 6 (.slice va lv.length vc) (s' := { s with g0 := G0, g1 := G1, free := fr, es := lv }) (uv' := .slice va lv.length vc) rfl (rowU_base HRr.out (by omega)) HGm.out.fr HGm.out.br HGm.out.fb
          have HG3 := hid hG3
          have q6f : wr.frozen? ⟨p, 6, none⟩ = false := HGm.out.frozen 6
          have HB3 : Hid (Below base w1 (wr.setCell ⟨p, 6, none⟩ (.slice va lv.length vc))) := HBr.out.setCell (p := ⟨p, 6, none⟩) hbp _
          have HVG := hid hvg
          clear hG3 hvg HRr HGm
          go_wp2_with fail
          clear q6 q6f
          go_loopw [17] (fun i wr => ∃ k : Nat, k ≤ lv.length ∧ i = .int .i64 k ∧ Hid (Gr base wr p (.slice va lv.length vc) fv' bv nw { s with g0 := G0, g1 := G1, free := fr, es := mapK (idleF lv) lv k }) ∧ Hid (Below base w1 wr)) (fun i _ => lv.length - (intOf i).toNat)
          case atStart => exact ⟨0, by omega, rfl, by rw [mapK_zero]; exact HG3, HB3⟩
          case round =>
            clear HG3 HB3 HBr HLr HSr
            obtain ⟨k, hk, rfl, HGr, HBr⟩ := hrel
            have q6 : wr.cell? ⟨p, 6, none⟩ = some (.slice va lv.length vc) := HGr.out.cell 6
            by_cases hkl : k < lv.length
            · have hkz3 : (k : Int) < (lv.length : Int) := by omega
              obtain ⟨g, rfl, hbg, hgl⟩ := HVG.out (by omega)
              have hkA : k < (mapK (idleF lv) lv k).length := by rw [mapK_length _ _ hk]; exact hkl
              have hrk : rec (mapK (idleF lv) lv k) k = rec lv k := by rw [mapK_rec _ _ hk hkl, if_neg (by omega)]
              obtain ⟨hcc, _⟩ := HGr.out.er.cells (i := k) hkA
              change ∀ j, j < 11 → wr.cell? ⟨g, k * 11 + j, none⟩ = some (.int .i64 (fld (rec (mapK (idleF lv) lv k) k) j)) at hcc
              rw [hrk] at hcc
              have HRK := hid hrk
              have HSA : Hid (idleF lv (rec lv k) = rec lv k → mapK (idleF lv) lv (k + 1) = mapK (idleF lv) lv k) := fun h => mapK_same _ _ hkl h
              have HNX : Hid (mapK (idleF lv) lv (k + 1) = (mapK (idleF lv) lv k).set k (idleF lv (rec lv k))) := mapK_next _ _ hkl
              have hml : (mapK (idleF lv) lv k).length = lv.length := mapK_length _ _ hk
              have HAF : Hid (idleF lv (rec lv k) = if (decide (0 < fld (rec lv k) 9) && decide (whoZ (fld (rec lv k) 9) lv < 0)) = true then tellR (rec lv k) 0 0 0 0 else rec lv k) := rfl
              have HWC : Hid (Calls Try.prog 87 #[.pointer (some ⟨p, 0, none⟩), .int .i64 (fld (rec lv k) 9)] wr fun e w' => e = .returned (.int .i64 (whoZ (fld (rec lv k) 9) lv)) ∧ w' = wr) := by
                have h := who_calls p vc (some ⟨g, 0, none⟩) (mapK (idleF lv) lv k) (fld (rec lv k) 9) wr (by omega) (by rw [hml]; exact q6) (rowU_recs HGr.out.er)
                rw [whoZ_idle _ _ hk] at h
                exact h
              have x9 : wr.cell? ⟨g, k * 11 + 9, none⟩ = some (.int .i64 (fld (rec lv k) 9)) := hcc 9 (by omega)
              clear hrk hcc
              generalize rec lv k = u at HRK HSA HNX HAF HWC x9
              generalize whoZ (fld u 9) lv = m at HAF HWC
              by_cases h9 : 0 < fld u 9
              case neg =>
                have d9 : decide (0 < fld u 9) = false := decide_eq_false h9
                have HMK := hid (HSA.out (HAF.out.trans (by rw [d9]; rfl)))
                go_wp2
                go_roundw
                case rel => exact ⟨k + 1, by omega, by go_num, by rw [HMK.out]; exact HGr, HBr⟩
                case measure => simp [intOf]; omega
              have d9 : decide (0 < fld u 9) = true := decide_eq_true h9
              go_wp2_with fail
              refine HWC.out.mono ?_
              clear HWC
              rintro e w8 ⟨rfl, rfl⟩
              by_cases hm : m < 0
              case neg =>
                have dm : decide (m < 0) = false := decide_eq_false hm
                have HMK := hid (HSA.out (HAF.out.trans (by rw [dm, Bool.and_false]; rfl)))
                go_wp2
                go_roundw
                case rel => exact ⟨k + 1, by omega, by go_num, by rw [HMK.out]; exact HGr, HBr⟩
                case measure => simp [intOf]; omega
              have dm : decide (m < 0) = true := decide_eq_true hm
              have HA2 : Hid (idleF lv u = tellR u 0 0 0 0) := HAF.out.trans (by rw [d9, dm]; rfl)
              have HTC := hid (tell_exact base p nw { s with g0 := G0, g1 := G1, free := fr, es := mapK (idleF lv) lv k } k 0 0 0 0 w8 g vc fv' bv hkA (by have h := HGr.out; rw [← hml] at h; exact h))
              have HG8 : Hid (Gr base (tellW w8 g (k * 11) 0 0 0 0) p (.slice (some ⟨g, 0, none⟩) lv.length vc) fv' bv nw { s with g0 := G0, g1 := G1, free := fr, es := mapK (idleF lv) lv (k + 1) }) := by
                have h := gr_tell HGr.out hkA 0 0 0 0
                show Gr _ _ _ _ _ _ _ _
                rw [HNX.out, HA2.out, ← HRK.out]
                exact h
              have HB8 : Hid (Below base w1 (tellW w8 g (k * 11) 0 0 0 0)) := below_tellW HBr.out (by omega)
              go_wp2_with fail
              refine HTC.out.mono ?_
              clear HTC
              rintro e w9 ⟨rfl, rfl⟩
              go_wp2
              go_roundw
              case rel => exact ⟨k + 1, by omega, by go_num, HG8, HB8⟩
              case measure => simp [intOf]; omega
            · have hkz3 : ¬ (k : Int) < (lv.length : Int) := by omega
              have q1 : wr.cell? ⟨p, 1, none⟩ = some (.int .i64 s.t) := HGr.out.cell 1
              have qf1 : wr.frozen? ⟨p, 1, none⟩ = false := HGr.out.frozen 1
              have hwt : IntKind.i64.wrap (s.t + 1) = s.t + 1 := IntWalk.i64_in _ ⟨by omega, by omega⟩
              have HFIN : Hid (GrE base (wr.setCell ⟨p, 1, none⟩ (.int .i64 (s.t + 1))) p nw (toilR nw s old)) := by
                have h := HGr.out
                rw [mapK_all _ _ (by omega)] at h
                show GrE _ _ _ _ _
                rw [HRES.out]
                exact ⟨_, _, _, h.pset 1 (.int .i64 (s.t + 1)) (s' := { s with t := s.t + 1, g0 := G0, g1 := G1, free := fr, es := lv.map (idleF lv) }) rfl h.er h.fr h.br h.fb⟩
              have HB9 : Hid (Below base w1 (wr.setCell ⟨p, 1, none⟩ (.int .i64 (s.t + 1)))) := HBr.out.setCell (p := ⟨p, 1, none⟩) hbp _
              go_wp2
              go_end0
              exact ⟨rfl, HFIN.out, HB9.out⟩
end Go.Proofs.Ytgiieepfhohmhaa
