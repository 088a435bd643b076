/- A tick under way: is there room; which number is taken. -/
import Derived.Test.YtakmjfchhchngaaGd
import Derived.Test.YtakmjfchhchngaaGa
namespace Go.Proofs.Ytakmjfchhchngaa
open Go.RowKit Go.Maps

def GmE (base : Nat) (w : World) (p : Nat) (s : St) (was : Int → Int) : Prop := ∃ ev fv bv B, Gm base w p ev fv bv B s was
theorem GmE.below {base : Nat} {w w' : World} {p : Nat} {s : St} {was : Int → Int} (h : GmE base w p s was) (hb : Below w.heap.size w w') : GmE base w' p s was := by
  obtain ⟨ev, fv, bv, B, h⟩ := h
  exact ⟨ev, fv, bv, B, h.below hb⟩

/- Block k is not the game's. -/
def Apart (w : World) (p k : Nat) : Prop := k ≠ p ∧ ∀ j v, w.cell? ⟨p, j, none⟩ = some v → v.ownBlock ≠ some k ∧ v ≠ .map (some k)
/- All that is not the game's stays as it is, and apart. -/
def Fr (w w' : World) (p : Nat) : Prop := w.heap.size ≤ w'.heap.size ∧ ∀ k, k < w.heap.size → Apart w p k → w'.heap[k]? = w.heap[k]? ∧ Apart w' p k
theorem Fr.trans {a b c : World} {p : Nat} (h : Fr a b p) (g : Fr b c p) : Fr a c p :=
  ⟨Nat.le_trans h.1 g.1, fun k hk ha => by
    obtain ⟨h1, h2⟩ := h.2 k hk ha
    obtain ⟨g1, g2⟩ := g.2 k (Nat.lt_of_lt_of_le hk h.1) h2
    exact ⟨g1.trans h1, g2⟩⟩
theorem Fr.below {w w' : World} {p : Nat} (hb : Below w.heap.size w w') (hp : p < w.heap.size) : Fr w w' p :=
  ⟨hb.size, fun k hk ha => ⟨hb.block k hk, ha.1, fun j v hv => ha.2 j v (by rw [← hv]; exact (hb.cell (p := ⟨p, j, none⟩) hp).symm)⟩⟩
theorem Gm.apart {base : Nat} {w : World} {p : Nat} {ev fv bv : Value} {B : Nat} {s : St} {was : Int → Int} (h : Gm base w p ev fv bv B s was) {k : Nat} : Apart w p k ↔ (k ≠ p ∧ ev.ownBlock ≠ some k ∧ fv.ownBlock ≠ some k ∧ bv.ownBlock ≠ some k ∧ k ≠ B) := by
  constructor
  · rintro ⟨h1, h2⟩
    exact ⟨h1, (h2 5 ev (h.cell 5)).1, (h2 4 fv (h.cell 4)).1, (h2 7 bv (h.cell 7)).1, fun e => (h2 6 (.map (some B)) (h.cell 6)).2 (by rw [e])⟩
  · rintro ⟨h1, h2, h3, h4, h5⟩
    refine ⟨h1, fun j v hv => ?_⟩
    rw [h.cell j] at hv
    match j, hv with
    | 0, hv => cases hv; exact ⟨by simp [Value.ownBlock], by simp⟩
    | 1, hv => cases hv; exact ⟨by simp [Value.ownBlock], by simp⟩
    | 2, hv => cases hv; exact ⟨by simp [Value.ownBlock], by simp⟩
    | 3, hv => cases hv; exact ⟨by simp [Value.ownBlock], by simp⟩
    | 4, hv => cases hv; exact ⟨h3, by obtain ⟨a, c, rfl, _⟩ := h.fr.open; simp⟩
    | 5, hv => cases hv; exact ⟨h2, by obtain ⟨a, c, rfl, _⟩ := h.er.open; simp⟩
    | 6, hv => cases hv; exact ⟨by simp [Value.ownBlock], by simpa using fun e => h5 e.symm⟩
    | 7, hv => cases hv; exact ⟨h4, by obtain ⟨a, c, rfl, _⟩ := h.br.open; simp⟩
    | j + 8, hv => simp at hv
theorem Gm.frame {base : Nat} {w w' : World} {p : Nat} {ev fv bv ev' fv' bv' : Value} {B : Nat} {s s' : St} {was was' : Int → Int} (h : Gm base w p ev fv bv B s was) (h' : Gm base w' p ev' fv' bv' B s' was')
    (hs : w.heap.size ≤ w'.heap.size) (hk : ∀ k, k < w.heap.size → k ≠ p → ev.ownBlock ≠ some k → fv.ownBlock ≠ some k → bv.ownBlock ≠ some k → k ≠ B → w'.heap[k]? = w.heap[k]?)
    (he : ∀ k, ev'.ownBlock = some k → ev.ownBlock = some k ∨ w.heap.size ≤ k) (hf : ∀ k, fv'.ownBlock = some k → fv.ownBlock = some k ∨ w.heap.size ≤ k) (hb : ∀ k, bv'.ownBlock = some k → bv.ownBlock = some k ∨ w.heap.size ≤ k) : Fr w w' p := by
  refine ⟨hs, fun k hlt ha => ?_⟩
  obtain ⟨a1, a2, a3, a4, a5⟩ := h.apart.1 ha
  refine ⟨hk k hlt a1 a2 a3 a4 a5, h'.apart.2 ⟨a1, fun e => ?_, fun e => ?_, fun e => ?_, a5⟩⟩
  · rcases he k e with x | x
    · exact a2 x
    · omega
  · rcases hf k e with x | x
    · exact a3 x
    · omega
  · rcases hb k e with x | x
    · exact a4 x
    · omega
theorem Gm.setFrame {base : Nat} {w : World} {p : Nat} {ev fv bv ev' fv' bv' : Value} {B : Nat} {s s' : St} {was was' : Int → Int} {j : Nat} {v : Value} (h : Gm base w p ev fv bv B s was) (h' : Gm base (w.setCell ⟨p, j, none⟩ v) p ev' fv' bv' B s' was')
    (he : ev'.ownBlock = ev.ownBlock) (hf : fv'.ownBlock = fv.ownBlock) (hb : bv'.ownBlock = bv.ownBlock) : Fr w (w.setCell ⟨p, j, none⟩ v) p :=
  h.frame h' (by simp) (fun k _ hkp _ _ _ _ => heap_setCell_other w ⟨p, j, none⟩ k v (fun e => hkp e)) (fun k hk => Or.inl (he ▸ hk)) (fun k hk => Or.inl (hf ▸ hk)) (fun k hk => Or.inl (hb ▸ hk))

def roomE (es : List (List Int)) (u : List Int) (x y : Int) : Bool := Pl.onB x y && (decide (Pl.farZ (fld u 3) (fld u 4) x y ≤ 1) && decide (idxZ (isAt x y) es < 0))

set_option maxRecDepth 100000 in
set_option maxHeartbeats 4000000 in
theorem hasRoom_calls (base p : Nat) (s : St) (was : Int → Int) (u : List Int) (x y : Int) (w : World) (hn : s.es.length ≤ 1000) (hu : (0 ≤ fld u 3 ∧ fld u 3 < 12) ∧ 0 ≤ fld u 4 ∧ fld u 4 < 12) (h : GmE base w p s was) :
    Calls Try.prog 142 #[.pointer (some ⟨p, 0, none⟩), entV u, .int .i64 x, .int .i64 y] w fun e w' => e = .returned (.bool (roomE s.es u x y)) ∧ Below w.heap.size w w' := by
  obtain ⟨ev, fv, bv, B, h⟩ := h
  obtain ⟨ea, c, rfl, hcap, hrecs, hg0⟩ := h.er.open
  have hlt := h.lt
  obtain ⟨c0, c1, c2, c3, c4, c5, c6, c7⟩ := h.eight
  have HR := hid hrecs
  clear h hrecs hg0 c0 c1 c2 c3 c4 c6 c7
  have hb1 : Below w.heap.size w (w.alloc (.cells (entC u) 86)) := (Below.refl _ w).alloc (Nat.le_refl _) _
  have HS := hid (standing_calls x y s.es ea c (w.alloc (.cells (entC u) 86)) hn (HR.out.below hb1))
  have HB1 := hid hb1
  have hpn : p ≠ w.heap.size := by omega
  clear hb1
  unfold roomE
  go_enter Try.func142, Try.ntmps142
  go_wp2_with fail
  refine (on_calls _ _ _).mono ?_
  rintro e w' ⟨rfl, rfl⟩
  cases h1 : Pl.onB x y
  · go_wp2
    go_ret
    exact ⟨retB (by rw [h1]; rfl), HB1.out⟩
  have hon := Pl.onB_true h1
  go_wp2_with fail
  refine (far_calls _ _ _ _ hu hon _).mono ?_
  rintro e w' ⟨rfl, rfl⟩
  have H1 := hid h1
  clear hon h1
  by_cases hf : Pl.farZ (fld u 3) (fld u 4) x y ≤ 1
  · have HF := hid hf
    go_wp2_with fail
    refine HS.out.mono ?_
    rintro e w2 ⟨rfl, hb2⟩
    have HB2 := hid (HB1.out.trans (hb2.mono (by simp [go_sem])))
    clear hb2 HS hf c5
    by_cases hz : idxZ (isAt x y) s.es < 0
    all_goals
      have HZ := hid hz
      go_wp2
      go_ret
      exact ⟨retB (by rw [H1.out]; simp [HF.out, HZ.out]), HB2.out⟩
  · have HF := hid (decide_eq_false hf)
    go_wp2
    go_ret
    exact ⟨retB (by rw [H1.out, HF.out]; rfl), HB1.out⟩

section
variable (base p : Nat) (s : St) (was : Int → Int) (w : World)

theorem nrow_pop {w : World} {base g m c : Nat} {zs : List Int} (h : NRow base w (.slice (some ⟨g, 0, none⟩) zs.length c) zs) (hm : zs.length = m + 1) : NRow base w (.slice (some ⟨g, 0, none⟩) m c) (zs.take m) := by
  have hl : (zs.take m).length = m := by rw [List.length_take]; omega
  have e : zs.map (Value.int .i64) = (zs.take m).map (Value.int .i64) ++ (zs.drop m).map (Value.int .i64) := by rw [← List.map_append, List.take_append_drop]
  unfold NRow at h ⊢
  rw [hm, e] at h
  rw [hl]
  exact ownsRow_pop (by rw [List.length_map, hl, Nat.mul_one]) h

set_option maxRecDepth 100000 in
set_option maxHeartbeats 4000000 in
theorem takeID_free (m : Nat) (hm : s.free.length = m + 1) (hml : m ≤ 1000) (h : GmE base w p s was) :
    Calls Try.prog 143 #[.pointer (some ⟨p, 0, none⟩)] w fun e w' => e = .returned (.tuple #[.int .i64 (fld s.free m), .bool true]) ∧ GmE base w' p { s with free := s.free.take m } was ∧ Below base w w' ∧ Fr w w' p := by
  obtain ⟨ev, fv, bv, B, h⟩ := h
  obtain ⟨fa, c, rfl, hcap, hnums, hg0⟩ := h.fr.open
  obtain ⟨gf, rfl, hbg, hgl⟩ := hg0 (by omega)
  obtain ⟨b', o', hbo, lm⟩ := hnums.at (i := m) (by omega)
  cases hbo
  rw [Nat.zero_add] at lm
  have hlt := h.lt
  have hbp := h.bp
  obtain ⟨c0, c1, c2, c3, c4, c5, c6, c7⟩ := h.eight
  have f4 := h.frozen 4
  have hG3 : Gm base (w.setCell ⟨p, 4, none⟩ (.slice (some ⟨gf, 0, none⟩) m c)) p ev (.slice (some ⟨gf, 0, none⟩) m c) bv B { s with free := s.free.take m } was := h.pset 4 (.slice (some ⟨gf, 0, none⟩) m c) rfl h.er (nrow_pop h.fr hm) h.br h.fb
  have hG2 : GmE base (w.setCell ⟨p, 4, none⟩ (.slice (some ⟨gf, 0, none⟩) m c)) p { s with free := s.free.take m } was :=
    ⟨ev, .slice (some ⟨gf, 0, none⟩) m c, bv, B, hG3⟩
  have HFr : Hid (Fr w (w.setCell ⟨p, 4, none⟩ (.slice (some ⟨gf, 0, none⟩) m c)) p) := h.setFrame hG3 rfl rfl rfl
  clear hG3
  have HG2 := hid hG2
  have HB : Hid (Below base w (w.setCell ⟨p, 4, none⟩ (.slice (some ⟨gf, 0, none⟩) m c))) := (Below.refl _ w).setCell (p := ⟨p, 4, none⟩) hbp _
  rw [hm] at c4 hcap
  have hcz : (m : Int) ≤ (c : Int) := by omega
  clear h hnums hg0 hG2 c0 c1 c2 c3 c5 c6 c7 hm
  go_enter Try.func143, Try.ntmps143
  go_wp2
  go_ret2
  exact ⟨rfl, HG2.out, HB.out, HFr.out⟩

set_option maxRecDepth 100000 in
set_option maxHeartbeats 4000000 in
theorem takeID_next (hm : s.free = []) (hnx : s.nx ≤ 200) (hn0 : 0 ≤ s.nx) (h : GmE base w p s was) :
    Calls Try.prog 143 #[.pointer (some ⟨p, 0, none⟩)] w fun e w' => e = .returned (.tuple #[.int .i64 s.nx, .bool true]) ∧ GmE base w' p { s with nx := s.nx + 1 } was ∧ Below base w w' ∧ Fr w w' p := by
  obtain ⟨ev, fv, bv, B, h⟩ := h
  obtain ⟨fa, c, rfl, hcap, hnums, hg0⟩ := h.fr.open
  have hlt := h.lt
  have hbp := h.bp
  obtain ⟨c0, c1, c2, c3, c4, c5, c6, c7⟩ := h.eight
  have f3 := h.frozen 3
  have hG3 := h.pset 3 (.int .i64 (s.nx + 1)) (s' := { s with nx := s.nx + 1 }) rfl h.er h.fr h.br h.fb
  have hG2 : GmE base (w.setCell ⟨p, 3, none⟩ (.int .i64 (s.nx + 1))) p { s with nx := s.nx + 1 } was := ⟨ev, _, bv, B, hG3⟩
  have HFr : Hid (Fr w (w.setCell ⟨p, 3, none⟩ (.int .i64 (s.nx + 1))) p) := h.setFrame hG3 rfl rfl rfl
  clear hG3
  have HG2 := hid hG2
  have HB : Hid (Below base w (w.setCell ⟨p, 3, none⟩ (.int .i64 (s.nx + 1)))) := (Below.refl _ w).setCell (p := ⟨p, 3, none⟩) hbp _
  rw [hm] at c4
  simp only [List.length_nil] at c4
  clear h hnums hg0 hG2 c0 c1 c2 c5 c6 c7 hm hcap
  go_enter Try.func143, Try.ntmps143
  go_wp2
  go_ret2
  exact ⟨rfl, HG2.out, HB.out, HFr.out⟩

set_option maxRecDepth 100000 in
set_option maxHeartbeats 4000000 in
theorem takeID_none (hm : s.free = []) (hnx : 200 < s.nx) (h : GmE base w p s was) :
    Calls Try.prog 143 #[.pointer (some ⟨p, 0, none⟩)] w fun e w' => e = .returned (.tuple #[.int .i64 0, .bool false]) ∧ w' = w := by
  obtain ⟨ev, fv, bv, B, h⟩ := h
  obtain ⟨fa, c, rfl, hcap, hnums, hg0⟩ := h.fr.open
  have hlt := h.lt
  obtain ⟨c0, c1, c2, c3, c4, c5, c6, c7⟩ := h.eight
  rw [hm] at c4
  simp only [List.length_nil] at c4
  clear h hnums hg0 c0 c1 c2 c5 c6 c7 hm hcap
  go_enter Try.func143, Try.ntmps143
  go_wp2
  go_ret2
  exact ⟨rfl, rfl⟩
end
end Go.Proofs.Ytakmjfchhchngaa
