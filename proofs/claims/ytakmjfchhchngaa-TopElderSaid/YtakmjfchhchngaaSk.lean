/- Striking, behind k of them. -/
import Derived.Test.YtakmjfchhchngaaInvZ
import Derived.Test.YtakmjfchhchngaaGe
import Derived.Test.YtakmjfchhchngaaMk
namespace Go.Proofs.Ytakmjfchhchngaa
open Go.RowKit Go.Maps

def hurtK (es : List (List Int)) (was : Int → Int) (k : Nat) (u : List Int) : List Int := updR 10 u 5 (fld u 5 - lessE es was (es.take k) (fld u 0))
def strikeK (s : St) (was : Int → Int) (k : Nat) : St := { s with g0 := earnE s.es was 0 (s.es.take k) s.g0, g1 := earnE s.es was 1 (s.es.take k) s.g1, es := s.es.map (hurtK s.es was k) }

theorem flat_congr {a b : List (List Int)} (hl : a.length = b.length) (h : ∀ i, i < a.length → ∀ j, j < 10 → fld (rec a i) j = fld (rec b i) j) : flat 10 a = flat 10 b := by
  apply List.ext_getElem?
  intro m
  have hm : m = (m / 10) * 10 + m % 10 := by omega
  have hmk : m % 10 < 10 := by omega
  rw [hm, flat_get hmk, flat_get hmk, hl]
  split
  · rename_i h1
    rw [h _ (by omega) _ hmk]
  · rfl
/- What a record has beyond its ten fields plays no part. -/
theorem gm_congr {base : Nat} {w : World} {p : Nat} {ev fv bv : Value} {B : Nat} {s : St} {was : Int → Int} (h : Gm base w p ev fv bv B s was) {es : List (List Int)} (hl : es.length = s.es.length) (he : ∀ i, i < es.length → ∀ j, j < 10 → fld (rec es i) j = fld (rec s.es i) j) :
    Gm base w p ev fv bv B { s with es := es } was := by
  refine ⟨h.hp, ?_, h.fr, h.br, h.ct, h.bp, h.bB, h.fb⟩
  have := h.er
  unfold Row at this ⊢
  show w.ownsRow base 86 10 ev es.length (flat 10 es)
  rw [hl, flat_congr hl he]
  exact this
theorem rec_map {f : List Int → List Int} {es : List (List Int)} {i : Nat} (hi : i < es.length) : rec (es.map f) i = f (rec es i) := by
  rw [rec_at (by simpa using hi), rec_at hi, List.getElem_map]
theorem lessE_zero (es : List (List Int)) (was : Int → Int) (id : Int) : lessE es was (es.take 0) id = 0 := by
  unfold lessE
  simp
theorem lessE_next {es : List (List Int)} {was : Int → Int} {k : Nat} (hk : k < es.length) (id : Int) :
    lessE es was (es.take (k + 1)) id = if strikeB es was (rec es k) = true ∧ fld (rec es k) 9 = id then lessE es was (es.take k) id + amountE (rec es k) else lessE es was (es.take k) id := by
  unfold lessE
  rw [take_rec hk, List.foldl_append]
  rfl
theorem earnE_next {es : List (List Int)} {was : Int → Int} {k : Nat} (hk : k < es.length) (o g : Int) :
    earnE es was o (es.take (k + 1)) g = if strikeB es was (rec es k) = true ∧ fld (rec es k) 6 ≠ 2 ∧ fld (rec es k) 1 = o then min (earnE es was o (es.take k) g + Pl.eLoad (fld (rec es k) 2)) 40 else earnE es was o (es.take k) g := by
  unfold earnE
  rw [take_rec hk, List.foldl_append]
  rfl
theorem less_bd (es : List (List Int)) (was : Int → Int) (k : Nat) (id : Int) : 0 ≤ lessE es was (es.take k) id ∧ lessE es was (es.take k) id ≤ 3 * k := by
  refine ⟨less_nonneg _ _ _ _, ?_⟩
  induction k with
  | zero => rw [lessE_zero]; omega
  | succ k ih =>
    by_cases hk : k < es.length
    · rw [lessE_next hk]
      have := (amount_nonneg (rec es k)).2
      split <;> omega
    · rw [List.take_of_length_le (by omega)]
      rw [List.take_of_length_le (by omega)] at ih
      omega
theorem hurtK_fld (es : List (List Int)) (was : Int → Int) (k : Nat) (u : List Int) {j : Nat} (hj : j < 10) : fld (hurtK es was k u) j = if j = 5 then fld u 5 - lessE es was (es.take k) (fld u 0) else fld u j := by
  unfold hurtK
  exact fld_updR u 5 _ hj
theorem strikeK_len (s : St) (was : Int → Int) (k : Nat) : (strikeK s was k).es.length = s.es.length := by
  unfold strikeK
  simp
theorem strikeK_rec {s : St} {was : Int → Int} {k i : Nat} (hi : i < s.es.length) : rec (strikeK s was k).es i = hurtK s.es was k (rec s.es i) := rec_map hi
theorem strikeK_start {base : Nat} {w : World} {p : Nat} {ev fv bv : Value} {B : Nat} {s : St} {was : Int → Int} (h : Gm base w p ev fv bv B s was) : Gm base w p ev fv bv B (strikeK s was 0) was := by
  have := gm_congr h (es := s.es.map (hurtK s.es was 0)) (by simp) (fun i hi j hj => by
    rw [List.length_map] at hi
    rw [rec_map hi, hurtK_fld _ _ _ _ hj, lessE_zero]
    split
    · rename_i e
      rw [e]
      omega
    · rfl)
  exact this
theorem strikeK_end (s : St) (was : Int → Int) : strikeK s was s.es.length = strikeS s was := by
  unfold strikeK strikeS
  rw [List.take_length]
  congr 1
  exact List.map_congr_left fun u _ => by
    unfold hurtK hurtU
    rw [List.take_length]
theorem strikeK_pass {s : St} {was : Int → Int} {k : Nat} (hk : k < s.es.length) (h : strikeB s.es was (rec s.es k) = false) : strikeK s was (k + 1) = strikeK s was k := by
  unfold strikeK
  rw [earnE_next hk, earnE_next hk, if_neg (fun x => by rw [h] at x; exact absurd x.1 (by simp)), if_neg (fun x => by rw [h] at x; exact absurd x.1 (by simp))]
  congr 1
  exact List.map_congr_left fun u _ => by
    unfold hurtK
    rw [lessE_next hk, if_neg (fun x => by rw [h] at x; exact absurd x.1 (by simp))]
/- One blow: who is struck has less. -/
theorem strikeK_hit {base : Nat} {w : World} {p g n c : Nat} {fv bv : Value} {B : Nat} {s : St} {was : Int → Int} {k m : Nat} (hk : k < s.es.length) (hm : m < s.es.length) (hu : Uniq s.es)
    (hs : strikeB s.es was (rec s.es k) = true) (ht : fld (rec s.es m) 0 = fld (rec s.es k) 9) {T : St}
    (h : Gm base w p (.slice (some ⟨g, 0, none⟩) n c) fv bv B T was) (hT : T = { strikeK s was k with es := (strikeK s was k).es.set m (updR 10 (hurtK s.es was k (rec s.es m)) 5 (fld (hurtK s.es was k (rec s.es m)) 5 - amountE (rec s.es k))) }) :
    Gm base w p (.slice (some ⟨g, 0, none⟩) n c) fv bv B { strikeK s was k with es := (strikeK s was (k + 1)).es } was := by
  subst hT
  have hl : (strikeK s was (k + 1)).es.length = s.es.length := strikeK_len _ _ _
  refine gm_congr h (es := (strikeK s was (k + 1)).es) (by simp [strikeK]) (fun i hi j hj => ?_)
  rw [hl] at hi
  rw [strikeK_rec hi, hurtK_fld _ _ _ _ hj, lessE_next hk]
  show _ = fld (rec ((strikeK s was k).es.set m _) i) j
  rw [rec_set (by rw [strikeK_len]; exact hi)]
  by_cases e : i = m
  · subst e
    have e1 : (strikeB s.es was (rec s.es k) = true ∧ fld (rec s.es k) 9 = fld (rec s.es i) 0) := ⟨hs, ht.symm⟩
    rw [if_pos e1, if_pos rfl, fld_updR _ _ _ hj, hurtK_fld _ _ _ _ (show 5 < 10 by omega), if_pos rfl, hurtK_fld _ _ _ _ hj]
    by_cases h5 : j = 5
    · rw [if_pos h5, if_pos h5]
      omega
    · rw [if_neg h5, if_neg h5, if_neg h5]
  · have e1 : ¬ (strikeB s.es was (rec s.es k) = true ∧ fld (rec s.es k) 9 = fld (rec s.es i) 0) := fun x => e (hu i m hi hm (by rw [ht]; exact x.2.symm))
    rw [if_neg e1, if_neg e, strikeK_rec hi, hurtK_fld _ _ _ _ hj]
theorem strikeK_fight {s : St} {was : Int → Int} {k : Nat} (hk : k < s.es.length) (h6 : fld (rec s.es k) 6 = 2) : ({ strikeK s was k with es := (strikeK s was (k + 1)).es } : St) = strikeK s was (k + 1) := by
  have e : ∀ o g, earnE s.es was o (s.es.take (k + 1)) g = earnE s.es was o (s.es.take k) g := fun o g => by
    rw [earnE_next hk, if_neg (fun x => x.2.1 h6)]
  unfold strikeK
  simp only [e]
theorem strikeK_mine {s : St} {was : Int → Int} {k : Nat} (hk : k < s.es.length) (hs : strikeB s.es was (rec s.es k) = true) (h6 : fld (rec s.es k) 6 ≠ 2) :
    (fld (rec s.es k) 1 = 0 → ({ strikeK s was k with es := (strikeK s was (k + 1)).es, g0 := min ((strikeK s was k).g0 + Pl.eLoad (fld (rec s.es k) 2)) 40 } : St) = strikeK s was (k + 1)) ∧
    (fld (rec s.es k) 1 = 1 → ({ strikeK s was k with es := (strikeK s was (k + 1)).es, g1 := min ((strikeK s was k).g1 + Pl.eLoad (fld (rec s.es k) 2)) 40 } : St) = strikeK s was (k + 1)) := by
  refine ⟨fun h1 => ?_, fun h1 => ?_⟩
  · have e0 : earnE s.es was 0 (s.es.take (k + 1)) s.g0 = min (earnE s.es was 0 (s.es.take k) s.g0 + Pl.eLoad (fld (rec s.es k) 2)) 40 := by rw [earnE_next hk, if_pos ⟨hs, h6, h1⟩]
    have e1 : earnE s.es was 1 (s.es.take (k + 1)) s.g1 = earnE s.es was 1 (s.es.take k) s.g1 := by rw [earnE_next hk, if_neg (fun x => by have := x.2.2; omega)]
    unfold strikeK
    simp only [e0, e1]
  · have e0 : earnE s.es was 1 (s.es.take (k + 1)) s.g1 = min (earnE s.es was 1 (s.es.take k) s.g1 + Pl.eLoad (fld (rec s.es k) 2)) 40 := by rw [earnE_next hk, if_pos ⟨hs, h6, h1⟩]
    have e1 : earnE s.es was 0 (s.es.take (k + 1)) s.g0 = earnE s.es was 0 (s.es.take k) s.g0 := by rw [earnE_next hk, if_neg (fun x => by have := x.2.2; omega)]
    unfold strikeK
    simp only [e0, e1]
theorem near_same {u t y z : List Int} (hy : ∀ j, j < 10 → j ≠ 5 → fld y j = fld u j) (hz : ∀ j, j < 10 → j ≠ 5 → fld z j = fld t j) : nearE y z = nearE u t := by
  unfold nearE
  rw [hy 3 (by omega) (by omega), hy 4 (by omega) (by omega), hy 6 (by omega) (by omega), hy 2 (by omega) (by omega), hz 3 (by omega) (by omega), hz 4 (by omega) (by omega)]
theorem hurtK_same (es : List (List Int)) (was : Int → Int) (k : Nat) (u : List Int) : ∀ j, j < 10 → j ≠ 5 → fld (hurtK es was k u) j = fld u j := fun j hj h5 => by rw [hurtK_fld _ _ _ _ hj, if_neg h5]

/- What striking leans on. -/
structure StrikeOk (s : St) : Prop where
  len : s.es.length ≤ 100
  on : ∀ i, i < s.es.length → OnU (rec s.es i)
  wf : ∀ i, i < s.es.length → (Lit.int .i64 (fld (rec s.es i) 0)).wf = true
  uniq : Uniq s.es
  aim : ∀ i, i < s.es.length → fld (rec s.es i) 9 ≠ 0 → 0 ≤ idxZ (isId (fld (rec s.es i) 9)) s.es
  own : ∀ i, i < s.es.length → fld (rec s.es i) 9 ≠ 0 → fld (rec s.es i) 1 = 0 ∨ fld (rec s.es i) 1 = 1
  hp : ∀ i, i < s.es.length → 0 ≤ fld (rec s.es i) 5 ∧ fld (rec s.es i) 5 ≤ 1000
  g0 : 0 ≤ s.g0 ∧ s.g0 ≤ 40
  g1 : 0 ≤ s.g1 ∧ s.g1 ≤ 40
theorem on_same {u y : List Int} (hy : ∀ j, j < 10 → j ≠ 5 → fld y j = fld u j) (h : OnU u) : OnU y := by
  unfold OnU at h ⊢
  rw [hy 3 (by omega) (by omega), hy 4 (by omega) (by omega)]
  exact h
theorem idx_strikeK (s : St) (was : Int → Int) (k : Nat) (id : Int) : idxZ (isId id) (strikeK s was k).es = idxZ (isId id) s.es := by
  refine idxZ_congr (strikeK_len _ _ _) fun j hj => ?_
  unfold isId
  rw [strikeK_rec hj, hurtK_same _ _ _ _ 0 (by omega) (by omega)]
/- One of them as it stands when its turn comes, and whom it would strike. -/
structure TurnK (s : St) (was : Int → Int) (k : Nat) (y : List Int) : Prop where
  y0 : rec (strikeK s was k).es k = y
  same : ∀ j, j < 10 → j ≠ 5 → fld y j = fld (rec s.es k) j
  on : OnU y
  wf : (Lit.int .i64 (fld y 0)).wf = true
  idle : was (fld y 0) = 0 ∨ fld y 9 = 0 → strikeK s was (k + 1) = strikeK s was k
theorem turnK {s : St} (h : StrikeOk s) (was : Int → Int) {k : Nat} (hk : k < s.es.length) : TurnK s was k (hurtK s.es was k (rec s.es k)) := by
  have hsame := hurtK_same s.es was k (rec s.es k)
  refine ⟨strikeK_rec hk, hsame, on_same hsame (h.on k hk), ?_, fun hd => strikeK_pass hk ?_⟩
  · rw [hsame 0 (by omega) (by omega)]
    exact h.wf k hk
  · rw [hsame 0 (by omega) (by omega), hsame 9 (by omega) (by omega)] at hd
    unfold strikeB
    rcases hd with e | e
    · simp [e]
    · simp [e]
structure AimK (s : St) (was : Int → Int) (k : Nat) (y : List Int) (m : Nat) (t : List Int) : Prop where
  lt : m < s.es.length
  idx : idxZ (isId (fld y 9)) (strikeK s was k).es = m
  t0 : rec (strikeK s was k).es m = t
  on : OnU t
  hp : -300 ≤ fld t 5 ∧ fld t 5 ≤ 1000
  gold : (0 ≤ (strikeK s was k).g0 ∧ (strikeK s was k).g0 ≤ 40) ∧ 0 ≤ (strikeK s was k).g1 ∧ (strikeK s was k).g1 ≤ 40
  own : fld y 1 = 0 ∨ fld y 1 = 1
  far : nearE y t = false → strikeK s was (k + 1) = strikeK s was k
  fight : nearE y t = true → fld y 6 = 2 → ∀ {base : Nat} {w : World} {p g n c : Nat} {fv bv : Value} {B : Nat}, Gm base w p (.slice (some ⟨g, 0, none⟩) n c) fv bv B { strikeK s was k with es := (strikeK s was k).es.set m (updR 10 t 5 (fld t 5 - Pl.eHarm (fld y 2))) } was → Gm base w p (.slice (some ⟨g, 0, none⟩) n c) fv bv B (strikeK s was (k + 1)) was
  mine : nearE y t = true → fld y 6 ≠ 2 → ∀ {base : Nat} {w : World} {p g n c : Nat} {fv bv : Value} {B : Nat}, Gm base w p (.slice (some ⟨g, 0, none⟩) n c) fv bv B { strikeK s was k with es := (strikeK s was k).es.set m (updR 10 t 5 (fld t 5 - Pl.eLoad (fld y 2))) } was → Gm base w p (.slice (some ⟨g, 0, none⟩) n c) fv bv B { strikeK s was k with es := (strikeK s was (k + 1)).es } was
  gain0 : nearE y t = true → fld y 6 ≠ 2 → fld y 1 = 0 → ({ strikeK s was k with es := (strikeK s was (k + 1)).es, g0 := min ((strikeK s was k).g0 + Pl.eLoad (fld y 2)) 40 } : St) = strikeK s was (k + 1)
  gain1 : nearE y t = true → fld y 6 ≠ 2 → fld y 1 = 1 → ({ strikeK s was k with es := (strikeK s was (k + 1)).es, g1 := min ((strikeK s was k).g1 + Pl.eLoad (fld y 2)) 40 } : St) = strikeK s was (k + 1)
theorem aimK {s : St} (h : StrikeOk s) (was : Int → Int) {k : Nat} (hk : k < s.es.length) {y : List Int} (hy : TurnK s was k y) (hw : was (fld y 0) ≠ 0) (h9 : fld y 9 ≠ 0) : ∃ m t, AimK s was k y m t := by
  have e9 := hy.same 9 (by omega) (by omega)
  have e0 := hy.same 0 (by omega) (by omega)
  have e6 := hy.same 6 (by omega) (by omega)
  have e2 := hy.same 2 (by omega) (by omega)
  have e1 := hy.same 1 (by omega) (by omega)
  have hz := h.aim k hk (by rw [← e9]; exact h9)
  obtain ⟨hml, hmp⟩ := idxZ_at hz
  have hbd := idxZ_bd (isId (fld (rec s.es k) 9)) s.es
  have hid : fld (rec s.es (idxZ (isId (fld (rec s.es k) 9)) s.es).toNat) 0 = fld (rec s.es k) 9 := eq_of_beq hmp
  have hts := hurtK_same s.es was k (rec s.es (idxZ (isId (fld (rec s.es k) 9)) s.es).toNat)
  have hne : nearE y (hurtK s.es was k (rec s.es (idxZ (isId (fld (rec s.es k) 9)) s.es).toNat)) = nearE (rec s.es k) (tgtE s.es (rec s.es k)) := near_same hy.same hts
  have hsb : strikeB s.es was (rec s.es k) = nearE (rec s.es k) (tgtE s.es (rec s.es k)) := by
    unfold strikeB
    rw [decide_eq_true (by rw [← e0]; exact hw), decide_eq_true (by rw [← e9]; exact h9)]
    simp
  have ham2 : fld y 6 = 2 → amountE (rec s.es k) = Pl.eHarm (fld y 2) := fun x => by unfold amountE; rw [if_pos (by rw [← e6]; exact x), e2]
  have ham3 : fld y 6 ≠ 2 → amountE (rec s.es k) = Pl.eLoad (fld y 2) := fun x => by unfold amountE; rw [if_neg (by rw [← e6]; exact x), e2]
  refine ⟨(idxZ (isId (fld (rec s.es k) 9)) s.es).toNat, _, hml, ?_, strikeK_rec hml, on_same hts (h.on _ hml), ?_, ?_, ?_, ?_, ?_, ?_, ?_, ?_⟩
  · rw [idx_strikeK, e9]
    omega
  · rw [hurtK_fld _ _ _ _ (by omega), if_pos rfl]
    have hl := less_bd s.es was k (fld (rec s.es (idxZ (isId (fld (rec s.es k) 9)) s.es).toNat) 0)
    have hh := h.hp _ hml
    have := h.len
    omega
  · exact ⟨earn_bd _ _ _ _ _ h.g0, earn_bd _ _ _ _ _ h.g1⟩
  · rw [e1]
    exact h.own k hk (by rw [← e9]; exact h9)
  · intro hf
    exact strikeK_pass hk (by rw [hsb, ← hne]; exact hf)
  · intro hn h6 base w p g n c fv bv B hG
    have := strikeK_hit hk hml h.uniq (by rw [hsb, ← hne]; exact hn) hid hG (by rw [ham2 h6])
    rw [strikeK_fight hk (by rw [← e6]; exact h6)] at this
    exact this
  · intro hn h6 base w p g n c fv bv B hG
    exact strikeK_hit hk hml h.uniq (by rw [hsb, ← hne]; exact hn) hid hG (by rw [ham3 h6])
  · intro hn h6 h1
    rw [e2]
    exact (strikeK_mine hk (by rw [hsb, ← hne]; exact hn) (by rw [← e6]; exact h6)).1 (by rw [← e1]; exact h1)
  · intro hn h6 h1
    rw [e2]
    exact (strikeK_mine hk (by rw [hsb, ← hne]; exact hn) (by rw [← e6]; exact h6)).2 (by rw [← e1]; exact h1)
end Go.Proofs.Ytakmjfchhchngaa
