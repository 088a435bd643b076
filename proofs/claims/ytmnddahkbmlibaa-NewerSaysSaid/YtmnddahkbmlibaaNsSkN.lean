/- Package newer: striking, behind k of them. -/
import Derived.Test.YtmnddahkbmlibaaNsEqO
import Derived.Test.YtmnddahkbmlibaaNsWhN
namespace Go.Proofs.Ytmnddahkbmlibaa
open Go.RowKit Go.Maps
def hurtN (es : List (List Int)) (old : List Int) (k : Nat) (u : List Int) : List Int := updR 11 u 5 (fld u 5 - lessO es old (es.take k) (fld u 0))
def strikeN (s : St) (old : List Int) (k : Nat) : St := { s with g0 := earnO s.es old 0 (s.es.take k) s.g0, g1 := earnO s.es old 1 (s.es.take k) s.g1, es := s.es.map (hurtN s.es old k) }
theorem flat_congrN {a b : List (List Int)} (hl : a.length = b.length) (h : ∀ i, i < a.length → ∀ j, j < 11 → fld (rec a i) j = fld (rec b i) j) : flat 11 a = flat 11 b := by
  apply List.ext_getElem?
  intro m
  have hm : m = (m / 11) * 11 + m % 11 := by omega
  have hmk : m % 11 < 11 := by omega
  rw [hm, flat_get hmk, flat_get hmk, hl]
  split
  · rename_i h1
    rw [h _ (by omega) _ hmk]
  · rfl
theorem gmN_congr {base : Nat} {w : World} {p : Nat} {uv : Value} {B : Nat} {s : St} {f : Int → Option Value} {o : Int} (h : GmN base w p uv B s f o) {es : List (List Int)} (hl : es.length = s.es.length) (he : ∀ i, i < es.length → ∀ j, j < 11 → fld (rec es i) j = fld (rec s.es i) j) :
    GmN base w p uv B { s with es := es } f o := by
  refine ⟨h.hp, ?_, h.wh, h.bp, h.bB⟩
  have := h.er
  unfold RowU at this ⊢
  show w.ownsRow base 110 11 uv es.length (flat 11 es)
  rw [hl, flat_congrN hl he]
  exact this
theorem lessO_zero (es : List (List Int)) (old : List Int) (id : Int) : lessO es old (es.take 0) id = 0 := by
  unfold lessO
  simp
theorem lessO_next2 {es : List (List Int)} {old : List Int} {k : Nat} (hk : k < es.length) (id : Int) :
    lessO es old (es.take (k + 1)) id = if strikeO es old (rec es k) = true ∧ fld (rec es k) 9 = id then lessO es old (es.take k) id + amountO (rec es k) else lessO es old (es.take k) id := by
  unfold lessO
  rw [take_rec hk, List.foldl_append]
  rfl
theorem earnO_next2 {es : List (List Int)} {old : List Int} {k : Nat} (hk : k < es.length) (o g : Int) :
    earnO es old o (es.take (k + 1)) g = if strikeO es old (rec es k) = true ∧ fld (rec es k) 6 ≠ 2 ∧ fld (rec es k) 1 = o then min (earnO es old o (es.take k) g + Pl.nLoad (fld (rec es k) 2)) 1000 else earnO es old o (es.take k) g := by
  unfold earnO
  rw [take_rec hk, List.foldl_append]
  rfl
theorem lessO_bd (es : List (List Int)) (old : List Int) (k : Nat) (id : Int) : 0 ≤ lessO es old (es.take k) id ∧ lessO es old (es.take k) id ≤ 3 * k := by
  refine ⟨lessO_nonneg _ _ _ _, ?_⟩
  induction k with
  | zero => rw [lessO_zero]; omega
  | succ k ih =>
    by_cases hk : k < es.length
    · rw [lessO_next2 hk]
      have := (amountO_bd (rec es k)).2
      split <;> omega
    · rw [List.take_of_length_le (by omega)]
      rw [List.take_of_length_le (by omega)] at ih
      omega
theorem hurtN_fld (es : List (List Int)) (old : List Int) (k : Nat) (u : List Int) {j : Nat} (hj : j < 11) : fld (hurtN es old k u) j = if j = 5 then fld u 5 - lessO es old (es.take k) (fld u 0) else fld u j := by
  unfold hurtN
  exact fld_updR u 5 _ hj
theorem strikeN_len (s : St) (old : List Int) (k : Nat) : (strikeN s old k).es.length = s.es.length := by
  unfold strikeN
  simp
theorem strikeN_rec {s : St} {old : List Int} {k i : Nat} (hi : i < s.es.length) : rec (strikeN s old k).es i = hurtN s.es old k (rec s.es i) := rec_map hi
theorem strikeN_start {base : Nat} {w : World} {p : Nat} {uv : Value} {B : Nat} {s : St} {f : Int → Option Value} {o : Int} {old : List Int} (h : GmN base w p uv B s f o) : GmN base w p uv B (strikeN s old 0) f o := by
  have := gmN_congr h (es := s.es.map (hurtN s.es old 0)) (by simp) (fun i hi j hj => by
    rw [List.length_map] at hi
    rw [rec_map hi, hurtN_fld _ _ _ _ hj, lessO_zero]
    split
    · rename_i e
      rw [e]
      omega
    · rfl)
  exact this
theorem strikeN_end (s : St) (old : List Int) : strikeN s old s.es.length = strikeSO s old := by
  unfold strikeN strikeSO
  rw [List.take_length]
  congr 1
  exact List.map_congr_left fun u _ => by
    unfold hurtN hurtO
    rw [List.take_length]
theorem strikeN_pass {s : St} {old : List Int} {k : Nat} (hk : k < s.es.length) (h : strikeO s.es old (rec s.es k) = false) : strikeN s old (k + 1) = strikeN s old k := by
  unfold strikeN
  rw [earnO_next2 hk, earnO_next2 hk, if_neg (fun x => by rw [h] at x; exact absurd x.1 (by simp)), if_neg (fun x => by rw [h] at x; exact absurd x.1 (by simp))]
  congr 1
  exact List.map_congr_left fun u _ => by
    unfold hurtN
    rw [lessO_next2 hk, if_neg (fun x => by rw [h] at x; exact absurd x.1 (by simp))]
theorem strikeN_hit {base : Nat} {w : World} {p g n c : Nat} {B : Nat} {s : St} {f : Int → Option Value} {o : Int} {old : List Int} {k m : Nat} (hk : k < s.es.length) (hm : m < s.es.length) (hu : Uniq s.es)
    (hs : strikeO s.es old (rec s.es k) = true) (ht : fld (rec s.es m) 0 = fld (rec s.es k) 9) {T : St}
    (h : GmN base w p (.slice (some ⟨g, 0, none⟩) n c) B T f o) (hT : T = { strikeN s old k with es := (strikeN s old k).es.set m (updR 11 (hurtN s.es old k (rec s.es m)) 5 (fld (hurtN s.es old k (rec s.es m)) 5 - amountO (rec s.es k))) }) :
    GmN base w p (.slice (some ⟨g, 0, none⟩) n c) B { strikeN s old k with es := (strikeN s old (k + 1)).es } f o := by
  subst hT
  have hl : (strikeN s old (k + 1)).es.length = s.es.length := strikeN_len _ _ _
  refine gmN_congr h (es := (strikeN s old (k + 1)).es) (by simp [strikeN]) (fun i hi j hj => ?_)
  rw [hl] at hi
  rw [strikeN_rec hi, hurtN_fld _ _ _ _ hj, lessO_next2 hk]
  show _ = fld (rec ((strikeN s old k).es.set m _) i) j
  rw [rec_set (by rw [strikeN_len]; exact hi)]
  by_cases e : i = m
  · subst e
    have e1 : (strikeO s.es old (rec s.es k) = true ∧ fld (rec s.es k) 9 = fld (rec s.es i) 0) := ⟨hs, ht.symm⟩
    rw [if_pos e1, if_pos rfl, fld_updR _ _ _ hj, hurtN_fld _ _ _ _ (show 5 < 11 by omega), if_pos rfl, hurtN_fld _ _ _ _ hj]
    by_cases h5 : j = 5
    · rw [if_pos h5, if_pos h5]
      omega
    · rw [if_neg h5, if_neg h5, if_neg h5]
  · have e1 : ¬ (strikeO s.es old (rec s.es k) = true ∧ fld (rec s.es k) 9 = fld (rec s.es i) 0) := fun x => e (hu i m hi hm (by rw [ht]; exact x.2.symm))
    rw [if_neg e1, if_neg e, strikeN_rec hi, hurtN_fld _ _ _ _ hj]
theorem strikeN_fight {s : St} {old : List Int} {k : Nat} (hk : k < s.es.length) (h6 : fld (rec s.es k) 6 = 2) : ({ strikeN s old k with es := (strikeN s old (k + 1)).es } : St) = strikeN s old (k + 1) := by
  have e : ∀ o g, earnO s.es old o (s.es.take (k + 1)) g = earnO s.es old o (s.es.take k) g := fun o g => by
    rw [earnO_next2 hk, if_neg (fun x => x.2.1 h6)]
  unfold strikeN
  simp only [e]
theorem strikeN_mine {s : St} {old : List Int} {k : Nat} (hk : k < s.es.length) (hs : strikeO s.es old (rec s.es k) = true) (h6 : fld (rec s.es k) 6 ≠ 2) :
    (fld (rec s.es k) 1 = 0 → ({ strikeN s old k with es := (strikeN s old (k + 1)).es, g0 := min ((strikeN s old k).g0 + Pl.nLoad (fld (rec s.es k) 2)) 1000 } : St) = strikeN s old (k + 1)) ∧
    (fld (rec s.es k) 1 = 1 → ({ strikeN s old k with es := (strikeN s old (k + 1)).es, g1 := min ((strikeN s old k).g1 + Pl.nLoad (fld (rec s.es k) 2)) 1000 } : St) = strikeN s old (k + 1)) := by
  refine ⟨fun h1 => ?_, fun h1 => ?_⟩
  · have e0 : earnO s.es old 0 (s.es.take (k + 1)) s.g0 = min (earnO s.es old 0 (s.es.take k) s.g0 + Pl.nLoad (fld (rec s.es k) 2)) 1000 := by rw [earnO_next2 hk, if_pos ⟨hs, h6, h1⟩]
    have e1 : earnO s.es old 1 (s.es.take (k + 1)) s.g1 = earnO s.es old 1 (s.es.take k) s.g1 := by rw [earnO_next2 hk, if_neg (fun x => by have := x.2.2; omega)]
    unfold strikeN
    simp only [e0, e1]
  · have e0 : earnO s.es old 1 (s.es.take (k + 1)) s.g1 = min (earnO s.es old 1 (s.es.take k) s.g1 + Pl.nLoad (fld (rec s.es k) 2)) 1000 := by rw [earnO_next2 hk, if_pos ⟨hs, h6, h1⟩]
    have e1 : earnO s.es old 0 (s.es.take (k + 1)) s.g0 = earnO s.es old 0 (s.es.take k) s.g0 := by rw [earnO_next2 hk, if_neg (fun x => by have := x.2.2; omega)]
    unfold strikeN
    simp only [e0, e1]
theorem near_sameN {u t y z : List Int} (hy : ∀ j, j < 11 → j ≠ 5 → fld y j = fld u j) (hz : ∀ j, j < 11 → j ≠ 5 → fld z j = fld t j) : nearN y z = nearN u t := by
  unfold nearN
  rw [hy 3 (by omega) (by omega), hy 4 (by omega) (by omega), hy 6 (by omega) (by omega), hy 2 (by omega) (by omega), hz 3 (by omega) (by omega), hz 4 (by omega) (by omega)]
theorem hurtN_same (es : List (List Int)) (old : List Int) (k : Nat) (u : List Int) : ∀ j, j < 11 → j ≠ 5 → fld (hurtN es old k u) j = fld u j := fun j hj h5 => by rw [hurtN_fld _ _ _ _ hj, if_neg h5]
structure StrikeOkN (s : St) : Prop where
  len : s.es.length ≤ 100
  on : ∀ i, i < s.es.length → OnU (rec s.es i)
  uniq : Uniq s.es
  aim : ∀ i, i < s.es.length → fld (rec s.es i) 9 ≠ 0 → 0 ≤ idxZ (isId (fld (rec s.es i) 9)) s.es
  own : ∀ i, i < s.es.length → fld (rec s.es i) 9 ≠ 0 → fld (rec s.es i) 1 = 0 ∨ fld (rec s.es i) 1 = 1
  hp : ∀ i, i < s.es.length → 0 ≤ fld (rec s.es i) 5 ∧ fld (rec s.es i) 5 ≤ 1000
  g0 : 0 ≤ s.g0 ∧ s.g0 ≤ 1000
  g1 : 0 ≤ s.g1 ∧ s.g1 ≤ 1000
theorem on_sameN {u y : List Int} (hy : ∀ j, j < 11 → j ≠ 5 → fld y j = fld u j) (h : OnU u) : OnU y := by
  unfold OnU at h ⊢
  rw [hy 3 (by omega) (by omega), hy 4 (by omega) (by omega)]
  exact h
theorem idx_strikeN (s : St) (old : List Int) (k : Nat) (id : Int) : idxZ (isId id) (strikeN s old k).es = idxZ (isId id) s.es := by
  refine idxZ_congr (strikeN_len _ _ _) fun j hj => ?_
  unfold isId
  rw [strikeN_rec hj, hurtN_same _ _ _ _ 0 (by omega) (by omega)]
structure TurnN (s : St) (old : List Int) (k : Nat) (y : List Int) : Prop where
  y0 : rec (strikeN s old k).es k = y
  same : ∀ j, j < 11 → j ≠ 5 → fld y j = fld (rec s.es k) j
  on : OnU y
  idle : isB old (fld y 0) = false ∨ fld y 9 = 0 → strikeN s old (k + 1) = strikeN s old k
theorem turnN_ok {s : St} (h : StrikeOkN s) (old : List Int) {k : Nat} (hk : k < s.es.length) : TurnN s old k (hurtN s.es old k (rec s.es k)) := by
  have hsame := hurtN_same s.es old k (rec s.es k)
  refine ⟨strikeN_rec hk, hsame, on_sameN hsame (h.on k hk), fun hd => strikeN_pass hk ?_⟩
  · rw [hsame 0 (by omega) (by omega), hsame 9 (by omega) (by omega)] at hd
    unfold strikeO
    rcases hd with e | e
    · simp [e]
    · simp [e]
structure AimKN (s : St) (old : List Int) (k : Nat) (y : List Int) (m : Nat) (t : List Int) : Prop where
  lt : m < s.es.length
  idx : idxZ (isId (fld y 9)) (strikeN s old k).es = m
  t0 : rec (strikeN s old k).es m = t
  on : OnU t
  hp : -300 ≤ fld t 5 ∧ fld t 5 ≤ 1000
  gold : (0 ≤ (strikeN s old k).g0 ∧ (strikeN s old k).g0 ≤ 1000) ∧ 0 ≤ (strikeN s old k).g1 ∧ (strikeN s old k).g1 ≤ 1000
  own : fld y 1 = 0 ∨ fld y 1 = 1
  far : nearN y t = false → strikeN s old (k + 1) = strikeN s old k
  fight : nearN y t = true → fld y 6 = 2 → ∀ {base : Nat} {w : World} {p g n c : Nat} {B : Nat} {f : Int → Option Value} {o : Int}, GmN base w p (.slice (some ⟨g, 0, none⟩) n c) B { strikeN s old k with es := (strikeN s old k).es.set m (updR 11 t 5 (fld t 5 - Pl.nHarm (fld y 2))) } f o → GmN base w p (.slice (some ⟨g, 0, none⟩) n c) B (strikeN s old (k + 1)) f o
  mine : nearN y t = true → fld y 6 ≠ 2 → ∀ {base : Nat} {w : World} {p g n c : Nat} {B : Nat} {f : Int → Option Value} {o : Int}, GmN base w p (.slice (some ⟨g, 0, none⟩) n c) B { strikeN s old k with es := (strikeN s old k).es.set m (updR 11 t 5 (fld t 5 - Pl.nLoad (fld y 2))) } f o → GmN base w p (.slice (some ⟨g, 0, none⟩) n c) B { strikeN s old k with es := (strikeN s old (k + 1)).es } f o
  gain0 : nearN y t = true → fld y 6 ≠ 2 → fld y 1 = 0 → ({ strikeN s old k with es := (strikeN s old (k + 1)).es, g0 := min ((strikeN s old k).g0 + Pl.nLoad (fld y 2)) 1000 } : St) = strikeN s old (k + 1)
  gain1 : nearN y t = true → fld y 6 ≠ 2 → fld y 1 = 1 → ({ strikeN s old k with es := (strikeN s old (k + 1)).es, g1 := min ((strikeN s old k).g1 + Pl.nLoad (fld y 2)) 1000 } : St) = strikeN s old (k + 1)
theorem aimKN {s : St} (h : StrikeOkN s) (old : List Int) {k : Nat} (hk : k < s.es.length) {y : List Int} (hy : TurnN s old k y) (hw : isB old (fld y 0) = true) (h9 : fld y 9 ≠ 0) : ∃ m t, AimKN s old k y m t := by
  have e9 := hy.same 9 (by omega) (by omega)
  have e0 := hy.same 0 (by omega) (by omega)
  have e6 := hy.same 6 (by omega) (by omega)
  have e2 := hy.same 2 (by omega) (by omega)
  have e1 := hy.same 1 (by omega) (by omega)
  have hz := h.aim k hk (by rw [← e9]; exact h9)
  obtain ⟨hml, hmp⟩ := idxZ_at hz
  have hbd := idxZ_bd (isId (fld (rec s.es k) 9)) s.es
  have hid : fld (rec s.es (idxZ (isId (fld (rec s.es k) 9)) s.es).toNat) 0 = fld (rec s.es k) 9 := eq_of_beq hmp
  have hts := hurtN_same s.es old k (rec s.es (idxZ (isId (fld (rec s.es k) 9)) s.es).toNat)
  have hne : nearN y (hurtN s.es old k (rec s.es (idxZ (isId (fld (rec s.es k) 9)) s.es).toNat)) = nearN (rec s.es k) (tgtR s.es (rec s.es k)) := near_sameN hy.same hts
  have hsb : strikeO s.es old (rec s.es k) = nearN (rec s.es k) (tgtR s.es (rec s.es k)) := by
    unfold strikeO
    rw [show isB old (fld (rec s.es k) 0) = true by rw [← e0]; exact hw, decide_eq_true (by rw [← e9]; exact h9)]
    simp
  have ham2 : fld y 6 = 2 → amountO (rec s.es k) = Pl.nHarm (fld y 2) := fun x => by unfold amountO; rw [if_pos (by rw [← e6]; exact x), e2]
  have ham3 : fld y 6 ≠ 2 → amountO (rec s.es k) = Pl.nLoad (fld y 2) := fun x => by unfold amountO; rw [if_neg (by rw [← e6]; exact x), e2]
  refine ⟨(idxZ (isId (fld (rec s.es k) 9)) s.es).toNat, _, hml, ?_, strikeN_rec hml, on_sameN hts (h.on _ hml), ?_, ?_, ?_, ?_, ?_, ?_, ?_, ?_⟩
  · rw [idx_strikeN, e9]
    omega
  · rw [hurtN_fld _ _ _ _ (by omega), if_pos rfl]
    have hl := lessO_bd s.es old k (fld (rec s.es (idxZ (isId (fld (rec s.es k) 9)) s.es).toNat) 0)
    have hh := h.hp _ hml
    have := h.len
    omega
  · exact ⟨earnO_bd _ _ _ _ _ h.g0, earnO_bd _ _ _ _ _ h.g1⟩
  · rw [e1]
    exact h.own k hk (by rw [← e9]; exact h9)
  · intro hf
    exact strikeN_pass hk (by rw [hsb, ← hne]; exact hf)
  · intro hn h6 base w p g n c B f o hG
    have := strikeN_hit hk hml h.uniq (by rw [hsb, ← hne]; exact hn) hid hG (by rw [ham2 h6])
    rw [strikeN_fight hk (by rw [← e6]; exact h6)] at this
    exact this
  · intro hn h6 base w p g n c B f o hG
    exact strikeN_hit hk hml h.uniq (by rw [hsb, ← hne]; exact hn) hid hG (by rw [ham3 h6])
  · intro hn h6 h1
    rw [e2]
    exact (strikeN_mine hk (by rw [hsb, ← hne]; exact hn) (by rw [← e6]; exact h6)).1 (by rw [← e1]; exact h1)
  · intro hn h6 h1
    rw [e2]
    exact (strikeN_mine hk (by rw [hsb, ← hne]; exact hn) (by rw [← e6]; exact h6)).2 (by rw [← e1]; exact h1)
theorem invN_strikeOk {s : St} (h : InvN s) : StrikeOkN s := by
  have hel := h.el
  refine ⟨by omega, fun i hi => invN_on h (rec_mem hi), uniq_of_up h.up, fun i hi h9 => (invN_target h (rec_mem hi) (aimsN h (rec_mem hi) h9)).1, fun i hi h9 => own01N h (rec_mem hi) h9, fun i hi => hpN h hi, h.a0, h.a1⟩
theorem strikeN_old {s : St} {o : Nat} {old : List Int} (h : OldN s.es o old) : strikeN s old o = strikeSO s old := by
  have hle := h.le
  have step : ∀ d, o + d ≤ s.es.length → strikeN s old (o + d) = strikeN s old o := by
    intro d
    induction d with
    | zero => intro _; rfl
    | succ d ih =>
      intro hd
      have := strikeN_pass (s := s) (old := old) (k := o + d) (by omega) (by
        unfold strikeO
        rw [h.is (o + d) (by omega), decide_eq_false (by omega)]
        rfl)
      rw [show o + (d + 1) = o + d + 1 by omega, this]
      exact ih (by omega)
  rw [← strikeN_end, ← step (s.es.length - o) (by omega), show o + (s.es.length - o) = s.es.length by omega]
end Go.Proofs.Ytmnddahkbmlibaa
