/- A right state stays right: under commands, and over a tick. -/
import Derived.Test.YtgiieepfhohmhabTElB
import Derived.Test.YtgiieepfhohmhabTMemA
import Derived.Test.YtgiieepfhohmhabTRefBA
import Derived.Test.YtgiieepfhohmhabTGkA
namespace Go.Proofs.Ytgiieepfhohmhab
open Go.RowKit Go.Maps
theorem idxZ_neg_iff {p : List Int → Bool} {rs : List (List Int)} : idxZ p rs < 0 ↔ ∀ i, i < rs.length → p (rec rs i) = false := by
  constructor
  · intro h i hi
    cases hp : p (rec rs i) with
    | false => rfl
    | true =>
      exfalso
      unfold idxZ at h
      cases hf : rs.findIdx? p with
      | none =>
        rw [List.findIdx?_eq_none_iff] at hf
        have h2 := hf (rs[i]) (List.getElem_mem hi)
        rw [rec_at hi] at hp
        rw [hp] at h2
        cases h2
      | some k =>
        rw [hf] at h
        simp only at h
        omega
  · intro h
    have := idxZ_none h
    omega
structure Inv (s : St) : Prop where
  t0 : 0 ≤ s.t
  t1 : s.t ≤ 60
  n0 : 1 ≤ s.nx
  n1 : s.nx ≤ 201
  a0 : 0 ≤ s.g0 ∧ s.g0 ≤ 40
  a1 : 0 ≤ s.g1 ∧ s.g1 ≤ 40
  el : s.es.length ≤ 20
  fl : s.free.length ≤ 200
  bd : ∀ i, i < s.es.length → boundsE (rec s.es i) = true
  ow : ∀ i, i < s.es.length → ownerE (rec s.es i) = true
  pl : ∀ i, i < s.es.length → placeE (rec s.es i) = true
  tg : ∀ i, i < s.es.length → targetE (rec s.es i) = true
  up : ∀ i j, i < j → j < s.es.length → fld (rec s.es i) 0 < fld (rec s.es j) 0
  lt : ∀ i, i < s.es.length → fld (rec s.es i) 0 < s.nx
  ap : ∀ i j, i < j → j < s.es.length → ¬ (fld (rec s.es i) 3 = fld (rec s.es j) 3 ∧ fld (rec s.es i) 4 = fld (rec s.es j) 4)
  am : ∀ i, i < s.es.length → aimOkE s.es i
  sm : (s.es.length : Int) + (s.free.length : Int) = s.nx - 1
  fr : ∀ j, j < (s.nx - 1).toNat → (idsE s.es ++ s.free).count ((j : Int) + 1) = 1
theorem firstE_zero {n : Nat} {f : Nat → Nat} (h : firstE n f = 0) : ∀ i, i < n → f i = 0 := by
  intro i hi
  unfold firstE at h
  cases hf : (List.range n).find? (fun i => f i != 0) with
  | none =>
    rw [List.find?_eq_none] at hf
    have := hf i (by simpa using hi)
    simpa using this
  | some k =>
    rw [hf] at h
    have := List.find?_some hf
    simp only at h
    simp [h] at this
theorem freeE_zero {nx : Int} {es : List (List Int)} {free : List Int} (h : freeE nx es free = 0) : (es.length : Int) + (free.length : Int) = nx - 1 ∧ ∀ j, j < (nx - 1).toNat → (idsE es ++ free).count ((j : Int) + 1) = 1 := by
  unfold freeE at h
  split at h
  next h1 =>
    split at h
    next h2 => exact ⟨h1, h2⟩
    · omega
  · omega
theorem inv_of_check {s : St} (h : checkE s.t s.g0 s.g1 s.nx s.free s.es = 0) : Inv s := by
  unfold checkE at h
  split at h
  next h1 =>
    split at h
    next h2 =>
      split at h
      next h3 =>
        obtain ⟨ht, hn, ha, hb, he, hf⟩ := stateE_zero h1
        have hz := firstE_zero h2
        obtain ⟨hs, hfr⟩ := freeE_zero h
        have hup1 : ∀ i, i + 1 < s.es.length → fld (rec s.es i) 0 < fld (rec s.es (i + 1)) 0 := fun i hi => (entE_zero (hz (i + 1) hi)).2.2.2.2.1 (by omega)
        have hup : ∀ d i, i + d + 1 < s.es.length → fld (rec s.es i) 0 < fld (rec s.es (i + d + 1)) 0 := by
          intro d
          induction d with
          | zero => exact fun i hi => hup1 i hi
          | succ d ih =>
            intro i hi
            have h1 := ih i (by omega)
            have h2 := hup1 (i + d + 1) (by omega)
            have e : i + (d + 1) + 1 = i + d + 1 + 1 := by omega
            rw [e]
            omega
        refine ⟨ht.1, ht.2, hn.1, hn.2, ha, hb, he, hf, fun i hi => (entE_zero (hz i hi)).1, fun i hi => (entE_zero (hz i hi)).2.1, fun i hi => (entE_zero (hz i hi)).2.2.1, fun i hi => (entE_zero (hz i hi)).2.2.2.1, ?_, fun i hi => (entE_zero (hz i hi)).2.2.2.2.2.1, ?_, h3, hs, hfr⟩
        · intro i j hij hj
          have h := hup (j - i - 1) i (by omega)
          have e : i + (j - i - 1) + 1 = j := by omega
          rw [e] at h
          exact h
        · intro i j hij hj hxy
          have h := (entE_zero (hz j hj)).2.2.2.2.2.2
          rw [idxZ_neg_iff] at h
          have hl : i < (s.es.take j).length := by rw [List.length_take]; omega
          have h2 := h i hl
          rw [rec_take hij] at h2
          unfold isAt at h2
          rw [hxy.1, hxy.2] at h2
          simp at h2
      · omega
    · exact absurd h (by omega)
  next h1 => exact absurd h h1
theorem check_of_inv {s : St} (h : Inv s) : checkE s.t s.g0 s.g1 s.nx s.free s.es = 0 := by
  have h1 : stateE s.t s.g0 s.g1 s.nx s.free.length s.es.length = 0 := by
    unfold stateE
    rw [if_pos ⟨by unfold inZ; exact decide_eq_true ⟨h.t0, h.t1⟩, by unfold inZ; exact decide_eq_true ⟨h.n0, h.n1⟩⟩, if_pos (by unfold inZ; exact decide_eq_true h.a0), if_pos (by unfold inZ; exact decide_eq_true h.a1), if_neg]
    have := h.el
    have := h.fl
    omega
  have h2 : ∀ i, i < s.es.length → entE s.nx s.es i = 0 := by
    intro i hi
    unfold entE
    rw [if_pos (h.bd i hi), if_pos ⟨h.ow i hi, h.pl i hi, h.tg i hi⟩, if_neg, if_neg]
    · intro h0
      have hneg : idxZ (isAt (fld (rec s.es i) 3) (fld (rec s.es i) 4)) (s.es.take i) < 0 := by
        rw [idxZ_neg_iff]
        intro j hj
        rw [List.length_take] at hj
        have hj2 : j < i := by omega
        rw [rec_take hj2]
        have := h.ap j i hj2 hi
        unfold isAt
        rw [Bool.and_eq_false_iff]
        by_cases e : fld (rec s.es j) 3 = fld (rec s.es i) 3
        · right
          have : ¬ fld (rec s.es j) 4 = fld (rec s.es i) 4 := fun e2 => this ⟨e, e2⟩
          simpa using this
        · left
          simpa using e
      omega
    · rintro (⟨h0, h1⟩ | h1)
      · have := h.up (i - 1) i (by omega) hi
        omega
      · have := h.lt i hi
        omega
  unfold checkE
  rw [if_pos h1, if_pos (firstE_none h2), if_pos h.am]
  exact freeE_pos h.sm h.fr
end Go.Proofs.Ytgiieepfhohmhab
namespace Go.Proofs.Ytgiieepfhohmhab
open Go.RowKit Go.Maps
theorem idxZ_congr {p : List Int → Bool} {a b : List (List Int)} (hl : b.length = a.length) (h : ∀ k, k < a.length → p (rec b k) = p (rec a k)) : idxZ p b = idxZ p a := by
  by_cases hn : idxZ p a < 0
  · have h1 := idxZ_neg_iff.1 hn
    have h2 : idxZ p b < 0 := idxZ_neg_iff.2 fun i hi => by rw [h i (by omega)]; exact h1 i (by omega)
    have := (idxZ_bd p a).1
    have := (idxZ_bd p b).1
    omega
  · obtain ⟨hi, hp⟩ := idxZ_at (show 0 ≤ idxZ p a by omega)
    have hb : ¬ idxZ p b < 0 := fun hb => by
      have := idxZ_neg_iff.1 hb _ (by omega : (idxZ p a).toNat < b.length)
      rw [h _ hi, hp] at this
      cases this
    obtain ⟨hj, hq⟩ := idxZ_at (show 0 ≤ idxZ p b by omega)
    have least : ∀ {c : List (List Int)} {k : Nat}, k < c.length → p (rec c k) = true → idxZ p c ≤ k := by
      intro c k hk hpk
      unfold idxZ
      cases hf : c.findIdx? p with
      | none =>
        rw [List.findIdx?_eq_none_iff] at hf
        have := hf c[k] (List.getElem_mem hk)
        rw [rec_at hk] at hpk
        rw [hpk] at this
        cases this
      | some m =>
        rw [List.findIdx?_eq_some_iff_getElem] at hf
        obtain ⟨hm, _, hall⟩ := hf
        simp only
        by_cases hlt : k < m
        · have := hall k hlt
          rw [rec_at hk] at hpk
          simp [hpk] at this
        · omega
    have l1 := least hj (by rw [hq])
    have l2 : idxZ p b ≤ (idxZ p a).toNat := least (by omega) (by rw [h _ hi]; exact hp)
    have l3 : idxZ p a ≤ (idxZ p b).toNat := least (by omega) (by rw [← h _ (by omega)]; exact hq)
    omega
def Alike (a b : List (List Int)) : Prop := b.length = a.length ∧ ∀ k, k < a.length → fld (rec b k) 0 = fld (rec a k) 0 ∧ fld (rec b k) 1 = fld (rec a k) 1 ∧ fld (rec b k) 2 = fld (rec a k) 2
theorem Alike.ids {a b : List (List Int)} (h : Alike a b) : idsE b = idsE a := by
  unfold idsE
  apply List.ext_getElem (by simp [h.1])
  intro i h1 h2
  simp only [List.getElem_map]
  rw [List.length_map] at h1 h2
  have := (h.2 i h2).1
  rw [rec_at h1, rec_at h2] at this
  exact this
theorem Alike.idx {a b : List (List Int)} (h : Alike a b) (id : Int) : idxZ (isId id) b = idxZ (isId id) a := idxZ_congr h.1 fun k hk => by unfold isId; rw [(h.2 k hk).1]
theorem Alike.aim {a b : List (List Int)} (h : Alike a b) (u : List Int) (d t : Int) : aimE b u d t = aimE a u d t := by
  unfold aimE
  rw [h.idx]
  by_cases hz : idxZ (isId t) a < 0
  · rw [if_pos hz, if_pos hz]
  · rw [if_neg hz, if_neg hz]
    obtain ⟨hk, _⟩ := idxZ_at (show 0 ≤ idxZ (isId t) a by omega)
    obtain ⟨_, h1, h2⟩ := h.2 _ hk
    unfold mineE fightE
    rw [h1, h2]
theorem aim_own {es : List (List Int)} {u v : List Int} (h1 : fld v 1 = fld u 1) (h2 : fld v 2 = fld u 2) (d t : Int) : aimE es v d t = aimE es u d t := by
  unfold aimE mineE fightE
  rw [h1, h2]
theorem inv_set {s : St} (h : Inv s) {i : Nat} (hi : i < s.es.length) {u : List Int} (hs : ∀ j, j < 6 → fld u j = fld (rec s.es i) j) (hd : 0 ≤ fld u 6 ∧ fld u 6 ≤ 3) (ht : 0 ≤ fld u 9 ∧ fld u 9 ≤ 200) (hp : placeE u = true) (hg : targetE u = true) (ha : 0 < fld u 9 → aimE s.es u (fld u 6) (fld u 9) = true) :
    Inv { s with es := s.es.set i u } := by
  have hal : Alike s.es (s.es.set i u) := by
    refine ⟨by simp, fun k hk => ?_⟩
    rw [rec_set hk]
    split
    next e => rw [e]; exact ⟨hs 0 (by omega), hs 1 (by omega), hs 2 (by omega)⟩
    · exact ⟨rfl, rfl, rfl⟩
  have hf : ∀ k, k < s.es.length → ∀ j, j < 6 → fld (rec (s.es.set i u) k) j = fld (rec s.es k) j := by
    intro k hk j hj
    rw [rec_set hk]
    split
    next e => rw [e]; exact hs j hj
    · rfl
  have hb : boundsE u = true := by
    have := h.bd i hi
    unfold boundsE at this ⊢
    rw [hs 0 (by omega), hs 2 (by omega), hs 3 (by omega), hs 4 (by omega), hs 5 (by omega)]
    simp only [Bool.and_eq_true] at this ⊢
    exact ⟨this.1, this.2.1, this.2.2.1, this.2.2.2.1, by unfold inZ; exact decide_eq_true hd, by unfold inZ; exact decide_eq_true ht⟩
  have ho : ownerE u = true := by
    have := h.ow i hi
    unfold ownerE at this ⊢
    rw [hs 1 (by omega), hs 2 (by omega)]
    exact this
  have one : ∀ (P : List Int → Prop), (∀ k, k < s.es.length → P (rec s.es k)) → P u → ∀ k, k < (s.es.set i u).length → P (rec (s.es.set i u) k) := by
    intro P h1 h2 k hk
    rw [List.length_set] at hk
    rw [rec_set hk]
    split
    · exact h2
    · exact h1 k hk
  refine ⟨h.t0, h.t1, h.n0, h.n1, h.a0, h.a1, by simpa using h.el, h.fl, one (fun r => boundsE r = true) h.bd hb, one (fun r => ownerE r = true) h.ow ho, one (fun r => placeE r = true) h.pl hp, one (fun r => targetE r = true) h.tg hg, ?_, ?_, ?_, ?_, by simpa using h.sm, ?_⟩
  · intro a b hab hbl
    simp only [List.length_set] at hbl
    rw [hf a (by omega) 0 (by omega), hf b hbl 0 (by omega)]
    exact h.up a b hab hbl
  · intro a hal
    simp only [List.length_set] at hal
    rw [hf a hal 0 (by omega)]
    exact h.lt a hal
  · intro a b hab hbl
    simp only [List.length_set] at hbl
    rw [hf a (by omega) 3 (by omega), hf b hbl 3 (by omega), hf a (by omega) 4 (by omega), hf b hbl 4 (by omega)]
    exact h.ap a b hab hbl
  · intro k hk
    simp only [List.length_set] at hk
    show aimOkE (s.es.set i u) k
    unfold aimOkE
    rw [rec_set hk]
    split
    · intro h9
      rw [hal.aim]
      exact ha h9
    · intro h9
      rw [hal.aim]
      exact h.am k hk h9
  · intro j hj
    show (idsE (s.es.set i u) ++ s.free).count _ = 1
    rw [hal.ids]
    exact h.fr j hj
theorem turnR_fld (u : List Int) (d : Int) : (∀ j, j < 6 → fld (turnR u d) j = fld u j) ∧ fld (turnR u d) 6 = d ∧ fld (turnR u d) 7 = 0 ∧ fld (turnR u d) 8 = 0 ∧ fld (turnR u d) 9 = 0 := by
  refine ⟨fun j hj => ?_, ?_, ?_, ?_, ?_⟩
  · unfold turnR
    rw [fld_updR _ _ _ (by omega), if_neg (by omega), fld_updR _ _ _ (by omega), if_neg (by omega), fld_updR _ _ _ (by omega), if_neg (by omega), fld_updR _ _ _ (by omega), if_neg (by omega)]
  · simp [turnR, fld_updR]
  · simp [turnR, fld_updR]
  · simp [turnR, fld_updR]
  · simp [turnR, fld_updR]
theorem inv_stop {s : St} (h : Inv s) {i : Nat} (hi : i < s.es.length) : Inv (stopS s i) := by
  obtain ⟨h5, h6, h7, h8, h9⟩ := turnR_fld (rec s.es i) 0
  refine inv_set h hi h5 (by rw [h6]; omega) (by rw [h9]; omega) ?_ ?_ (by rw [h9]; omega)
  · unfold placeE
    rw [h6, h7, h8]
    rfl
  · unfold targetE
    rw [h6, h9]
    rfl
theorem inv_aim {s : St} (h : Inv s) {i : Nat} (hi : i < s.es.length) {d t : Int} (hd : d = 2 ∨ d = 3) : Inv (aimS s i d t) := by
  unfold aimS
  split
  next ha =>
    obtain ⟨h5, h6, h7, h8, h9⟩ := turnR_fld (rec s.es i) d
    have ht : 1 ≤ t ∧ t ≤ 200 := by
      unfold aimE at ha
      split at ha
      · cases ha
      next hz =>
        obtain ⟨hk, hp⟩ := idxZ_at (show 0 ≤ idxZ (isId t) s.es by omega)
        have := (boundsE_true (h.bd _ hk)).2.1
        have e : fld (rec s.es (idxZ (isId t) s.es).toNat) 0 = t := eq_of_beq hp
        rw [e] at this
        exact this
    have g : ∀ j, j < 9 → fld (updR 10 (turnR (rec s.es i) d) 9 t) j = fld (turnR (rec s.es i) d) j := fun j hj => by rw [fld_updR _ _ _ (by omega), if_neg (by omega)]
    have g9 : fld (updR 10 (turnR (rec s.es i) d) 9 t) 9 = t := by rw [fld_updR _ _ _ (by omega), if_pos rfl]
    have g6 := (g 6 (by omega)).trans h6
    refine inv_set h hi (fun j hj => (g j (by omega)).trans (h5 j hj)) (by rw [g6]; omega) (by rw [g9]; omega) ?_ ?_ ?_
    · unfold placeE
      rw [g6, g 7 (by omega), g 8 (by omega), h7, h8, if_neg (by omega)]
      rfl
    · unfold targetE
      rw [g6, g9, decide_eq_true (show 0 < t by omega)]
      rcases hd with rfl | rfl <;> rfl
    · intro _
      rw [g6, g9, aim_own (u := rec s.es i) ((g 1 (by omega)).trans (h5 1 (by omega))) ((g 2 (by omega)).trans (h5 2 (by omega)))]
      exact ha
  · exact h
theorem inv_go {s : St} (h : Inv s) {i : Nat} (hi : i < s.es.length) {x y : Int} : Inv (goS s i x y) := by
  unfold goS
  split
  next ha =>
    rw [Bool.and_eq_true, decide_eq_true_eq] at ha
    obtain ⟨h5, h6, h7, h8, h9⟩ := turnR_fld (rec s.es i) 1
    have g : ∀ j, j < 10 → j ≠ 7 → j ≠ 8 → fld (updR 10 (updR 10 (turnR (rec s.es i) 1) 7 x) 8 y) j = fld (turnR (rec s.es i) 1) j := fun j hj h7 h8 => by rw [fld_updR _ _ _ hj, if_neg h8, fld_updR _ _ _ hj, if_neg h7]
    have g7 : fld (updR 10 (updR 10 (turnR (rec s.es i) 1) 7 x) 8 y) 7 = x := by rw [fld_updR _ _ _ (by omega), if_neg (by omega), fld_updR _ _ _ (by omega), if_pos rfl]
    have g8 : fld (updR 10 (updR 10 (turnR (rec s.es i) 1) 7 x) 8 y) 8 = y := by rw [fld_updR _ _ _ (by omega), if_pos rfl]
    have g6 := (g 6 (by omega) (by omega) (by omega)).trans h6
    have g9 := (g 9 (by omega) (by omega) (by omega)).trans h9
    have g2 := (g 2 (by omega) (by omega) (by omega)).trans (h5 2 (by omega))
    refine inv_set h hi (fun j hj => (g j (by omega) (by omega) (by omega)).trans (h5 j hj)) (by rw [g6]; omega) (by rw [g9]; omega) ?_ ?_ (by rw [g9]; omega)
    · unfold placeE
      rw [g6, g7, g8, g2, if_pos rfl, ha.1, decide_eq_true ha.2]
      rfl
    · unfold targetE
      rw [g6, g9]
      rfl
  · exact h
end Go.Proofs.Ytgiieepfhohmhab
namespace Go.Proofs.Ytgiieepfhohmhab
open Go.RowKit Go.Maps
theorem all_once : ∀ (n : Nat) (L : List Int), (∀ j, j < n → L.count ((j : Int) + 1) = 1) → ∃ M, L.Perm ((List.range n).map (fun (j : Nat) => (j : Int) + 1) ++ M) := by
  intro n
  induction n with
  | zero => exact fun L _ => ⟨L, by simp⟩
  | succ n ih =>
    intro L h
    have hm : ((n : Int) + 1) ∈ L := by
      rw [← List.count_pos_iff, h n (by omega)]
      omega
    have hp := List.perm_cons_erase hm
    obtain ⟨M, hM⟩ := ih (L.erase ((n : Int) + 1)) (fun j hj => by
      rw [List.count_erase_of_ne (by omega)]
      exact h j (by omega))
    refine ⟨M, hp.trans ?_⟩
    rw [List.range_succ, List.map_append, List.append_assoc]
    exact (List.Perm.cons _ hM).trans List.perm_middle.symm
theorem once_mem {n : Nat} {L : List Int} (hl : L.length = n) (h : ∀ j, j < n → L.count ((j : Int) + 1) = 1) {x : Int} (hx : x ∈ L) : 1 ≤ x ∧ x ≤ n := by
  obtain ⟨M, hM⟩ := all_once n L h
  have hlen := hM.length_eq
  simp only [List.length_append, List.length_map, List.length_range] at hlen
  have hM0 : M = [] := List.eq_nil_of_length_eq_zero (by omega)
  rw [hM0, List.append_nil] at hM
  have := hM.mem_iff.1 hx
  simp only [List.mem_map, List.mem_range] at this
  obtain ⟨j, hj, rfl⟩ := this
  omega
theorem Inv.known {s : St} (h : Inv s) {x : Int} (hx : x ∈ idsE s.es ++ s.free) : 1 ≤ x ∧ x < s.nx ∧ (idsE s.es ++ s.free).count x = 1 := by
  have hl : (idsE s.es ++ s.free).length = (s.nx - 1).toNat := by
    rw [List.length_append]
    have := h.sm
    have := h.n0
    simp only [idsE, List.length_map]
    omega
  have hb := once_mem hl h.fr hx
  have := h.n0
  refine ⟨hb.1, by omega, ?_⟩
  have h2 := h.fr (x - 1).toNat (by omega)
  have e : (((x - 1).toNat : Nat) : Int) + 1 = x := by omega
  rw [e] at h2
  exact h2
theorem mem_ids {es : List (List Int)} {x : Int} : x ∈ idsE es ↔ ∃ k, k < es.length ∧ fld (rec es k) 0 = x := by
  unfold idsE
  rw [List.mem_map]
  constructor
  · rintro ⟨r, hr, rfl⟩
    obtain ⟨i, hi, rfl⟩ := List.mem_iff_getElem.1 hr
    exact ⟨i, hi, by rw [rec_at hi]⟩
  · rintro ⟨k, hk, rfl⟩
    exact ⟨es[k], List.getElem_mem hk, by rw [rec_at hk]⟩
theorem ins_split {es : List (List Int)} {u : List Int} (hup : ∀ i j, i < j → j < es.length → fld (rec es i) 0 < fld (rec es j) 0) (hne : ∀ i, i < es.length → fld (rec es i) 0 ≠ fld u 0) :
    ∃ k, k ≤ es.length ∧ insE es u = es.take k ++ u :: es.drop k ∧ (∀ i, i < k → fld (rec es i) 0 < fld u 0) ∧ (∀ i, k ≤ i → i < es.length → fld u 0 < fld (rec es i) 0) := by
  unfold insE
  by_cases hz : idxZ (isAbove (fld u 0)) es < 0
  · rw [if_pos hz]
    have h := idxZ_neg_iff.1 hz
    refine ⟨es.length, Nat.le_refl _, by rw [List.take_length, List.drop_length], fun i hi => ?_, fun i h1 h2 => by omega⟩
    have := h i hi
    unfold isAbove at this
    rw [decide_eq_false_iff_not] at this
    have := hne i hi
    omega
  · rw [if_neg hz]
    obtain ⟨hk, hp⟩ := idxZ_at (show 0 ≤ idxZ (isAbove (fld u 0)) es by omega)
    have hlow : ∀ i, i < (idxZ (isAbove (fld u 0)) es).toNat → isAbove (fld u 0) (rec es i) = false := by
      intro i hi
      unfold idxZ at hi hz
      cases hf : es.findIdx? (isAbove (fld u 0)) with
      | none => rw [hf] at hz; simp at hz
      | some m =>
        rw [hf] at hi
        rw [List.findIdx?_eq_some_iff_getElem] at hf
        obtain ⟨hm, _, hall⟩ := hf
        simp only [Int.toNat_natCast] at hi
        have := hall i hi
        rw [rec_at (by omega)]
        simpa using this
    generalize (idxZ (isAbove (fld u 0)) es).toNat = k at hk hp hlow
    refine ⟨k, by omega, rfl, fun i hi => ?_, fun i h1 h2 => ?_⟩
    · have := hlow i hi
      unfold isAbove at this
      rw [decide_eq_false_iff_not] at this
      have := hne i (by omega)
      omega
    · unfold isAbove at hp
      rw [decide_eq_true_eq] at hp
      by_cases e : i = k
      · rw [e]; exact hp
      · have := hup k i (by omega) h2
        omega
theorem rec_ins {es : List (List Int)} {u : List Int} {k : Nat} (hk : k ≤ es.length) (j : Nat) : rec (es.take k ++ u :: es.drop k) j = if j < k then rec es j else if j = k then u else rec es (j - 1) := by
  have hl : (es.take k).length = k := by rw [List.length_take]; omega
  unfold rec
  rw [List.getD_eq_getElem?_getD, List.getD_eq_getElem?_getD, List.getD_eq_getElem?_getD]
  by_cases h1 : j < k
  · rw [if_pos h1, List.getElem?_append_left (by omega), List.getElem?_take_of_lt h1]
  · rw [if_neg h1, List.getElem?_append_right (by omega), hl]
    by_cases h2 : j = k
    · rw [if_pos h2, h2, Nat.sub_self]
      rfl
    · rw [if_neg h2]
      have e : j - k = (j - k - 1) + 1 := by omega
      rw [e, List.getElem?_cons_succ, List.getElem?_drop]
      congr 2
      omega
theorem ids_ins {es : List (List Int)} {u : List Int} (k : Nat) : (idsE (es.take k ++ u :: es.drop k)).Perm (fld u 0 :: idsE es) := by
  unfold idsE
  rw [List.map_append, List.map_cons]
  refine List.perm_middle.trans ?_
  rw [← List.map_append, List.take_append_drop]
theorem aim_iff {es : List (List Int)} (hup : ∀ i j, i < j → j < es.length → fld (rec es i) 0 < fld (rec es j) 0) (u : List Int) (d t : Int) :
    aimE es u d t = true ↔ ∃ k, k < es.length ∧ fld (rec es k) 0 = t ∧ (if d = 3 then mineE u (rec es k) else fightE u (rec es k)) = true := by
  have uniq : ∀ i j, i < es.length → j < es.length → fld (rec es i) 0 = fld (rec es j) 0 → i = j := by
    intro i j hi hj e
    rcases Nat.lt_trichotomy i j with h | h | h
    · have := hup i j h hj; omega
    · exact h
    · have := hup j i h hi; omega
  unfold aimE
  by_cases hz : idxZ (isId t) es < 0
  · rw [if_pos hz]
    constructor
    · intro h; cases h
    · rintro ⟨k, hk, he, _⟩
      have := idxZ_neg_iff.1 hz k hk
      unfold isId at this
      rw [he] at this
      simp at this
  · rw [if_neg hz]
    obtain ⟨hk, hp⟩ := idxZ_at (show 0 ≤ idxZ (isId t) es by omega)
    have he : fld (rec es (idxZ (isId t) es).toNat) 0 = t := eq_of_beq hp
    constructor
    · intro h
      refine ⟨_, hk, he, ?_⟩
      split
      next h3 => rw [if_pos h3] at h; exact h
      next h3 => rw [if_neg h3] at h; exact h
    · rintro ⟨k, hkl, hke, hc⟩
      have := uniq _ _ hk hkl (he.trans hke.symm)
      rw [this]
      split
      next h3 => rw [if_pos h3] at hc; exact hc
      next h3 => rw [if_neg h3] at hc; exact hc
end Go.Proofs.Ytgiieepfhohmhab
namespace Go.Proofs.Ytgiieepfhohmhab
open Go.RowKit Go.Maps
theorem inv_ins {s s' : St} (h : Inv s) {n : List Int} (hes : s'.es = insE s.es n) (ht : s'.t = s.t) (hg0 : 0 ≤ s'.g0 ∧ s'.g0 ≤ 40) (hg1 : 0 ≤ s'.g1 ∧ s'.g1 ≤ 40) (hnx : s.nx ≤ s'.nx) (hnx2 : s'.nx ≤ 201) (hel : s.es.length < 20) (hfl : s'.free.length ≤ 200)
    (hb : boundsE n = true) (ho : ownerE n = true) (hp : placeE n = true) (hg : targetE n = true) (h9 : fld n 9 = 0) (hne : fld n 0 ∉ idsE s.es) (hlt : fld n 0 < s'.nx) (hroom : idxZ (isAt (fld n 3) (fld n 4)) s.es < 0)
    (hsm : (s.es.length : Int) + 1 + (s'.free.length : Int) = s'.nx - 1) (hfr : ∀ j, j < (s'.nx - 1).toNat → (fld n 0 :: (idsE s.es ++ s'.free)).count ((j : Int) + 1) = 1) : Inv s' := by
  have hne' : ∀ i, i < s.es.length → fld (rec s.es i) 0 ≠ fld n 0 := fun i hi e => hne (mem_ids.2 ⟨i, hi, e⟩)
  obtain ⟨k, hk, hins, hlow, hhigh⟩ := ins_split h.up hne'
  rw [hins] at hes
  have hlen : s'.es.length = s.es.length + 1 := by
    rw [hes]
    simp only [List.length_append, List.length_cons, List.length_take, List.length_drop]
    omega
  have hrec : ∀ j, rec s'.es j = if j < k then rec s.es j else if j = k then n else rec s.es (j - 1) := fun j => by rw [hes]; exact rec_ins hk j
  have one : ∀ (P : List Int → Prop), (∀ i, i < s.es.length → P (rec s.es i)) → P n → ∀ j, j < s'.es.length → P (rec s'.es j) := by
    intro P h1 h2 j hj
    rw [hrec]
    split
    · exact h1 j (by omega)
    · split
      · exact h2
      · exact h1 (j - 1) (by omega)
  have hup : ∀ i j, i < j → j < s'.es.length → fld (rec s'.es i) 0 < fld (rec s'.es j) 0 := by
    intro i j hij hj
    rw [hrec i, hrec j]
    by_cases h1 : j < k
    · rw [if_pos h1, if_pos (by omega)]
      exact h.up i j hij (by omega)
    · rw [if_neg h1]
      by_cases h2 : j = k
      · rw [if_pos h2, if_pos (by omega)]
        exact hlow i (by omega)
      · rw [if_neg h2]
        by_cases h3 : i < k
        · rw [if_pos h3]
          by_cases h4 : i = j - 1
          · omega
          · exact h.up i (j - 1) (by omega) (by omega)
        · rw [if_neg h3]
          by_cases h4 : i = k
          · rw [if_pos h4]
            exact hhigh (j - 1) (by omega) (by omega)
          · rw [if_neg h4]
            exact h.up (i - 1) (j - 1) (by omega) (by omega)
  have hat : ∀ i, i < s.es.length → ¬ (fld (rec s.es i) 3 = fld n 3 ∧ fld (rec s.es i) 4 = fld n 4) := by
    intro i hi e
    have := idxZ_neg_iff.1 hroom i hi
    unfold isAt at this
    rw [e.1, e.2] at this
    simp at this
  refine ⟨by rw [ht]; exact h.t0, by rw [ht]; exact h.t1, by have := h.n0; omega, hnx2, hg0, hg1, by omega, hfl, one (fun r => boundsE r = true) h.bd hb, one (fun r => ownerE r = true) h.ow ho, one (fun r => placeE r = true) h.pl hp, one (fun r => targetE r = true) h.tg hg, hup, ?_, ?_, ?_, by rw [hlen]; omega, ?_⟩
  · exact one (fun r => fld r 0 < s'.nx) (fun i hi => by have := h.lt i hi; omega) hlt
  · intro i j hij hj
    rw [hrec i, hrec j]
    by_cases h1 : j < k
    · rw [if_pos h1, if_pos (by omega)]
      exact h.ap i j hij (by omega)
    · rw [if_neg h1]
      by_cases h2 : j = k
      · rw [if_pos h2, if_pos (by omega)]
        exact hat i (by omega)
      · rw [if_neg h2]
        by_cases h3 : i < k
        · rw [if_pos h3]
          by_cases h4 : i = j - 1
          · omega
          · exact h.ap i (j - 1) (by omega) (by omega)
        · rw [if_neg h3]
          by_cases h4 : i = k
          · rw [if_pos h4]
            exact fun e => hat (j - 1) (by omega) ⟨e.1.symm, e.2.symm⟩
          · rw [if_neg h4]
            exact h.ap (i - 1) (j - 1) (by omega) (by omega)
  · refine one (fun r => 0 < fld r 9 → aimE s'.es r (fld r 6) (fld r 9) = true) (fun i hi h0 => ?_) (by rw [h9]; intro h; omega)
    rw [aim_iff hup]
    obtain ⟨m, hm, he, hc⟩ := (aim_iff h.up _ _ _).1 (h.am i hi h0)
    by_cases hmk : m < k
    · have e : rec s'.es m = rec s.es m := by rw [hrec, if_pos hmk]
      exact ⟨m, by omega, by rw [e]; exact he, by rw [e]; exact hc⟩
    · have e : rec s'.es (m + 1) = rec s.es m := by rw [hrec, if_neg (by omega), if_neg (by omega), Nat.add_sub_cancel]
      exact ⟨m + 1, by omega, by rw [e]; exact he, by rw [e]; exact hc⟩
  · intro j hj
    have hperm : (idsE s'.es ++ s'.free).Perm (fld n 0 :: (idsE s.es ++ s'.free)) := by
      rw [hes]
      exact (ids_ins k).append_right _
    rw [hperm.count_eq]
    exact hfr j hj
theorem newU_ok {id o k x y : Int} (hid : 1 ≤ id ∧ id ≤ 200) (ho : o = 0 ∨ o = 1) (hk : Pl.eHas k = true) (hk4 : k ≠ 4) (hon : Pl.onB x y = true) :
    boundsE (newU id o k x y) = true ∧ ownerE (newU id o k x y) = true ∧ placeE (newU id o k x y) = true ∧ targetE (newU id o k x y) = true := by
  have f0 : fld (newU id o k x y) 0 = id := rfl
  have f1 : fld (newU id o k x y) 1 = o := rfl
  have f2 : fld (newU id o k x y) 2 = k := rfl
  have f3 : fld (newU id o k x y) 3 = x := rfl
  have f4 : fld (newU id o k x y) 4 = y := rfl
  have f5 : fld (newU id o k x y) 5 = Pl.eHP k := rfl
  have f6 : fld (newU id o k x y) 6 = 0 := rfl
  have f7 : fld (newU id o k x y) 7 = 0 := rfl
  have f8 : fld (newU id o k x y) 8 = 0 := rfl
  have f9 : fld (newU id o k x y) 9 = 0 := rfl
  have hhp : 1 ≤ Pl.eHP k := by
    unfold Pl.eHas at hk
    rw [decide_eq_true_eq] at hk
    have : k = 1 ∨ k = 2 ∨ k = 3 ∨ k = 5 := by omega
    rcases this with rfl | rfl | rfl | rfl <;> decide
  refine ⟨?_, ?_, ?_, ?_⟩
  · unfold boundsE
    rw [f0, f2, f3, f4, f5, f6, f9, hk, hon]
    unfold mostZ inZ
    rw [if_neg hk4, decide_eq_true hid, decide_eq_true ⟨hhp, Int.le_refl _⟩]
    rfl
  · unfold ownerE
    rw [f1, f2, if_neg hk4]
    unfold inZ
    exact decide_eq_true (by omega)
  · unfold placeE
    rw [f6, f7, f8]
    rfl
  · unfold targetE
    rw [f6, f9]
    rfl
theorem inv_build {s : St} (h : Inv s) {i : Nat} (hi : i < s.es.length) (q : List Int) : Inv (buildS s (rec s.es i) q) := by
  unfold buildS
  split
  case isFalse => exact h
  case isTrue hm =>
    unfold mayBuild at hm
    simp only [Bool.and_eq_true] at hm
    obtain ⟨hk, hk4, hw, hroom, hcost, hlen⟩ := hm
    have hk4' : fld q 3 ≠ 4 := by simpa [bne] using hk4
    have hw' : fld (rec s.es i) 2 = 1 := eq_of_beq hw
    rw [decide_eq_true_eq] at hcost hlen
    unfold roomE at hroom
    simp only [Bool.and_eq_true, decide_eq_true_eq] at hroom
    obtain ⟨hon, hfar, hst⟩ := hroom
    have hown : fld (rec s.es i) 1 = 0 ∨ fld (rec s.es i) 1 = 1 := by
      have := h.ow i hi
      unfold ownerE at this
      rw [hw', if_neg (by omega)] at this
      unfold inZ at this
      rw [decide_eq_true_eq] at this
      omega
    have hcb := cost_bd (fld q 3)
    have hga := h.a0
    have hgb := h.a1
    have hn0 := h.n0
    have hsm := h.sm
    split
    · exact h
    next id s1 htk =>
      have hpay : ∀ (s1 : St), s1.g0 = s.g0 → s1.g1 = s.g1 → (0 ≤ (payS s1 (fld (rec s.es i) 1) (Pl.eCost (fld q 3))).g0 ∧ (payS s1 (fld (rec s.es i) 1) (Pl.eCost (fld q 3))).g0 ≤ 40) ∧ (0 ≤ (payS s1 (fld (rec s.es i) 1) (Pl.eCost (fld q 3))).g1 ∧ (payS s1 (fld (rec s.es i) 1) (Pl.eCost (fld q 3))).g1 ≤ 40) := by
        intro s1 e0 e1
        unfold goldOf at hcost
        unfold payS
        by_cases ho : fld (rec s.es i) 1 = 0
        · rw [if_pos ho] at hcost ⊢
          simp only
          omega
        · rw [if_neg ho] at hcost ⊢
          simp only
          omega
      have hpe : ∀ (s1 : St) o c, (payS s1 o c).t = s1.t ∧ (payS s1 o c).nx = s1.nx ∧ (payS s1 o c).free = s1.free := by
        intro s1 o c
        unfold payS
        split <;> exact ⟨rfl, rfl, rfl⟩
      unfold takeS at htk
      split at htk
      next hf =>
        split at htk
        · cases htk
        next hnx =>
          cases htk
          obtain ⟨ob, oo, op, ot⟩ := newU_ok (x := fld q 4) (y := fld q 5) (show 1 ≤ s.nx ∧ s.nx ≤ 200 by omega) hown hk hk4' hon
          have hp := hpay { s with nx := s.nx + 1 } rfl rfl
          have hq := hpe { s with nx := s.nx + 1 } (fld (rec s.es i) 1) (Pl.eCost (fld q 3))
          refine inv_ins h (n := newU s.nx (fld (rec s.es i) 1) (fld q 3) (fld q 4) (fld q 5)) rfl hq.1 hp.1 hp.2 ?_ ?_ hlen ?_ ob oo op ot rfl ?_ ?_ hst ?_ ?_
          · show s.nx ≤ (payS _ _ _).nx
            rw [hq.2.1]; simp only; omega
          · show (payS _ _ _).nx ≤ 201
            rw [hq.2.1]; simp only; omega
          · show (payS _ _ _).free.length ≤ 200
            rw [hq.2.2]; exact h.fl
          · intro hmem
            have := (h.known (List.mem_append_left _ hmem)).2.1
            exact absurd this (Int.lt_irrefl _)
          · show s.nx < (payS _ _ _).nx
            rw [hq.2.1]; simp only; omega
          · show (s.es.length : Int) + 1 + ((payS _ _ _).free.length : Int) = (payS _ _ _).nx - 1
            rw [hq.2.1, hq.2.2]; simp only; omega
          · intro j hj
            have hj' : j < ((payS { s with nx := s.nx + 1 } (fld (rec s.es i) 1) (Pl.eCost (fld q 3))).nx - 1).toNat := hj
            rw [hq.2.1] at hj'
            simp only at hj'
            show (s.nx :: (idsE s.es ++ (payS _ _ _).free)).count _ = 1
            rw [hq.2.2]
            by_cases e : (j : Int) + 1 = s.nx
            · rw [e, List.count_cons_self]
              have : (idsE s.es ++ s.free).count s.nx = 0 := by
                rw [List.count_eq_zero]
                intro hmem
                exact absurd (h.known hmem).2.1 (Int.lt_irrefl _)
              simp only
              omega
            · rw [List.count_cons_of_ne (fun x => e x.symm)]
              exact h.fr j (by omega)
      next hf =>
        cases htk
        have hfl : 0 < s.free.length := List.length_pos_iff.2 hf
        have hsplit : s.free = s.free.take (s.free.length - 1) ++ [fld s.free (s.free.length - 1)] := by
          have := nums_take (l := s.free) (k := s.free.length - 1) (by omega)
          rw [Nat.sub_add_cancel hfl, List.take_length] at this
          exact this
        generalize hid : fld s.free (s.free.length - 1) = id at hsplit
        have hmem : id ∈ idsE s.es ++ s.free := by
          rw [hsplit]
          simp
        obtain ⟨k1, k2, k3⟩ := h.known hmem
        have hn1 := h.n1
        obtain ⟨ob, oo, op, ot⟩ := newU_ok (x := fld q 4) (y := fld q 5) (show 1 ≤ id ∧ id ≤ 200 by omega) hown hk hk4' hon
        have hp := hpay { s with free := s.free.take (s.free.length - 1) } rfl rfl
        have hq := hpe { s with free := s.free.take (s.free.length - 1) } (fld (rec s.es i) 1) (Pl.eCost (fld q 3))
        have hnot : id ∉ idsE s.es := by
          intro hm
          rw [hsplit, ← List.append_assoc, List.count_append, List.count_append] at k3
          have h1 : 0 < (idsE s.es).count id := List.count_pos_iff.2 hm
          have h2 : [id].count id = 1 := by simp
          omega
        refine inv_ins h (n := newU id (fld (rec s.es i) 1) (fld q 3) (fld q 4) (fld q 5)) rfl hq.1 hp.1 hp.2 ?_ ?_ hlen ?_ ob oo op ot rfl hnot ?_ hst ?_ ?_
        · show s.nx ≤ (payS _ _ _).nx
          rw [hq.2.1]; exact Int.le_refl _
        · show (payS _ _ _).nx ≤ 201
          rw [hq.2.1]; exact hn1
        · show (payS _ _ _).free.length ≤ 200
          rw [hq.2.2]
          have := h.fl
          simp only [List.length_take]
          omega
        · show id < (payS _ _ _).nx
          rw [hq.2.1]; exact k2
        · show (s.es.length : Int) + 1 + ((payS _ _ _).free.length : Int) = (payS _ _ _).nx - 1
          rw [hq.2.1, hq.2.2]
          simp only [List.length_take]
          omega
        · intro j hj
          have hj' : j < ((payS { s with free := s.free.take (s.free.length - 1) } (fld (rec s.es i) 1) (Pl.eCost (fld q 3))).nx - 1).toNat := hj
          rw [hq.2.1] at hj'
          show (id :: (idsE s.es ++ (payS _ _ _).free)).count _ = 1
          rw [hq.2.2]
          have hc : (idsE s.es ++ (s.free.take (s.free.length - 1) ++ [id])).count ((j : Int) + 1) = 1 := by
            rw [← hsplit]
            exact h.fr j hj'
          rw [← List.append_assoc] at hc
          have hpm : (id :: (idsE s.es ++ s.free.take (s.free.length - 1))).Perm (idsE s.es ++ s.free.take (s.free.length - 1) ++ [id]) := List.perm_append_comm (l₁ := [id])
          exact (hpm.count_eq _).trans hc
theorem inv_cmd {s : St} (h : Inv s) (q : List Int) : Inv (cmdS s q) := by
  unfold cmdS
  split
  · exact h
  next hz =>
    obtain ⟨hi, _⟩ := idxZ_at (show 0 ≤ idxZ (isId (fld q 2)) s.es by omega)
    split
    · unfold doS
      split
      · exact inv_go h hi
      · split
        · exact inv_aim h hi (Or.inl rfl)
        · split
          · exact inv_aim h hi (Or.inr rfl)
          · split
            · exact inv_build h hi q
            · split
              · exact inv_stop h hi
              · exact h
    · exact h
end Go.Proofs.Ytgiieepfhohmhab
namespace Go.Proofs.Ytgiieepfhohmhab
open Go.RowKit Go.Maps
def mayE (d : Int) (u v : List Int) : Bool := if d = 3 then mineE u v else fightE u v
structure InvM (s : St) : Prop where
  t0 : 0 ≤ s.t
  t1 : s.t ≤ 60
  n0 : 1 ≤ s.nx
  n1 : s.nx ≤ 201
  a0 : 0 ≤ s.g0 ∧ s.g0 ≤ 40
  a1 : 0 ≤ s.g1 ∧ s.g1 ≤ 40
  el : s.es.length ≤ 20
  fl : s.free.length ≤ 200
  bd : ∀ u ∈ s.es, boundsE u = true
  ow : ∀ u ∈ s.es, ownerE u = true
  pl : ∀ u ∈ s.es, placeE u = true
  tg : ∀ u ∈ s.es, targetE u = true
  lt : ∀ u ∈ s.es, fld u 0 < s.nx
  up : s.es.Pairwise (fun a b => fld a 0 < fld b 0)
  ap : s.es.Pairwise (fun a b => ¬ (fld a 3 = fld b 3 ∧ fld a 4 = fld b 4))
  am : ∀ u ∈ s.es, 0 < fld u 9 → ∃ v ∈ s.es, fld v 0 = fld u 9 ∧ mayE (fld u 6) u v = true
  sm : (s.es.length : Int) + (s.free.length : Int) = s.nx - 1
  fr : ∀ j, j < (s.nx - 1).toNat → (idsE s.es ++ s.free).count ((j : Int) + 1) = 1
theorem all_mem {es : List (List Int)} {P : List Int → Prop} : (∀ i, i < es.length → P (rec es i)) ↔ ∀ u ∈ es, P u := by
  constructor
  · intro h u hu
    obtain ⟨i, hi, rfl⟩ := List.mem_iff_getElem.1 hu
    have := h i hi
    rw [rec_at hi] at this
    exact this
  · intro h i hi
    rw [rec_at hi]
    exact h _ (List.getElem_mem hi)
theorem all_pair {es : List (List Int)} {R : List Int → List Int → Prop} : (∀ i j, i < j → j < es.length → R (rec es i) (rec es j)) ↔ es.Pairwise R := by
  rw [List.pairwise_iff_getElem]
  constructor
  · intro h i j hi hj hij
    have := h i j hij hj
    rw [rec_at hi, rec_at hj] at this
    exact this
  · intro h i j hij hj
    rw [rec_at hj, rec_at (show i < es.length by omega)]
    exact h i j (by omega) hj hij
theorem aim_mem {es : List (List Int)} (hup : ∀ i j, i < j → j < es.length → fld (rec es i) 0 < fld (rec es j) 0) (u : List Int) (d t : Int) : aimE es u d t = true ↔ ∃ v ∈ es, fld v 0 = t ∧ mayE d u v = true := by
  rw [aim_iff hup]
  constructor
  · rintro ⟨k, hk, he, hc⟩
    rw [rec_at hk] at he hc
    exact ⟨_, List.getElem_mem hk, he, hc⟩
  · rintro ⟨v, hv, he, hc⟩
    obtain ⟨i, hi, rfl⟩ := List.mem_iff_getElem.1 hv
    exact ⟨i, hi, by rw [rec_at hi]; exact he, by rw [rec_at hi]; exact hc⟩
theorem Inv.mem {s : St} (h : Inv s) : InvM s := by
  refine ⟨h.t0, h.t1, h.n0, h.n1, h.a0, h.a1, h.el, h.fl, all_mem.1 h.bd, all_mem.1 h.ow, all_mem.1 h.pl, all_mem.1 h.tg, all_mem.1 h.lt, (all_pair (R := fun a b => fld a 0 < fld b 0)).1 h.up, (all_pair (R := fun a b => ¬ (fld a 3 = fld b 3 ∧ fld a 4 = fld b 4))).1 h.ap, ?_, h.sm, h.fr⟩
  intro u hu h0
  obtain ⟨i, hi, rfl⟩ := List.mem_iff_getElem.1 hu
  have := h.am i hi
  unfold aimOkE at this
  rw [rec_at hi] at this
  exact (aim_mem h.up _ _ _).1 (this h0)
theorem InvM.inv {s : St} (h : InvM s) : Inv s := by
  have hup := (all_pair (R := fun a b => fld a 0 < fld b 0)).2 h.up
  refine ⟨h.t0, h.t1, h.n0, h.n1, h.a0, h.a1, h.el, h.fl, all_mem.2 h.bd, all_mem.2 h.ow, all_mem.2 h.pl, all_mem.2 h.tg, hup, all_mem.2 h.lt, (all_pair (R := fun a b => ¬ (fld a 3 = fld b 3 ∧ fld a 4 = fld b 4))).2 h.ap, ?_, h.sm, h.fr⟩
  intro i hi h0
  rw [rec_at hi] at h0 ⊢
  exact (aim_mem hup _ _ _).2 (h.am _ (List.getElem_mem hi) h0)
theorem invM_map {s : St} (h : InvM s) (f : List Int → List Int) (h0 : ∀ u ∈ s.es, fld (f u) 0 = fld u 0 ∧ fld (f u) 1 = fld u 1 ∧ fld (f u) 2 = fld u 2) (hb : ∀ u ∈ s.es, boundsE (f u) = true) (hp : ∀ u ∈ s.es, placeE (f u) = true) (hg : ∀ u ∈ s.es, targetE (f u) = true)
    (hap : (s.es.map f).Pairwise (fun a b => ¬ (fld a 3 = fld b 3 ∧ fld a 4 = fld b 4))) (ham : ∀ u ∈ s.es, 0 < fld (f u) 9 → ∃ v ∈ s.es, fld v 0 = fld (f u) 9 ∧ mayE (fld (f u) 6) (f u) v = true) : InvM { s with es := s.es.map f } := by
  have hmem : ∀ (P : List Int → Prop), (∀ u ∈ s.es, P (f u)) → ∀ v ∈ s.es.map f, P v := by
    intro P hP v hv
    obtain ⟨u, hu, rfl⟩ := List.mem_map.1 hv
    exact hP u hu
  have hids : idsE (s.es.map f) = idsE s.es := by
    unfold idsE
    rw [List.map_map]
    exact List.map_congr_left fun u hu => (h0 u hu).1
  refine ⟨h.t0, h.t1, h.n0, h.n1, h.a0, h.a1, by simpa using h.el, h.fl, hmem _ hb, hmem _ ?_, hmem _ hp, hmem _ hg, hmem (fun v => fld v 0 < s.nx) (fun u hu => by rw [(h0 u hu).1]; exact h.lt u hu), ?_, hap, ?_, by simpa using h.sm, ?_⟩
  · intro u hu
    have := h.ow u hu
    unfold ownerE at this ⊢
    rw [(h0 u hu).2.1, (h0 u hu).2.2]
    exact this
  · show (s.es.map f).Pairwise _
    rw [List.pairwise_map]
    exact h.up.imp_of_mem fun {a b} ha hb hab => by rw [(h0 a ha).1, (h0 b hb).1]; exact hab
  · refine hmem (fun v => 0 < fld v 9 → ∃ w ∈ s.es.map f, fld w 0 = fld v 9 ∧ mayE (fld v 6) v w = true) (fun u hu h9 => ?_)
    obtain ⟨v, hv, he, hc⟩ := ham u hu h9
    refine ⟨f v, List.mem_map.2 ⟨v, hv, rfl⟩, by rw [(h0 v hv).1]; exact he, ?_⟩
    unfold mayE mineE fightE at hc ⊢
    rw [(h0 v hv).2.1, (h0 v hv).2.2]
    exact hc
  · intro j hj
    show (idsE (s.es.map f) ++ s.free).count _ = 1
    rw [hids]
    exact h.fr j hj
end Go.Proofs.Ytgiieepfhohmhab
namespace Go.Proofs.Ytgiieepfhohmhab
open Go.RowKit Go.Maps
def wishE (es : List (List Int)) (was : Int → Int) (u : List Int) : Option (Int × Int) :=
  if headB es u = true ∧ was (fld u 0) ≠ 0 ∧ Pl.eSpeed (fld u 2) ≠ 0 ∧ (Pl.nearZ (fld u 3) (headX es u) ≠ fld u 3 ∨ Pl.nearZ (fld u 4) (headY es u) ≠ fld u 4) then some (Pl.nearZ (fld u 3) (headX es u), Pl.nearZ (fld u 4) (headY es u)) else none
def claimsE (es : List (List Int)) (was : Int → Int) (x y : Int) : Nat := es.countP (isAt x y) + es.countP (fun u => decide (wishE es was u = some (x, y)))
def moveU (es : List (List Int)) (was : Int → Int) (u : List Int) : List Int :=
  match wishE es was u with
  | some (x, y) => if claimsE es was x y = 1 then updR 10 (updR 10 u 3 x) 4 y else u
  | none => u
def moveS (s : St) (was : Int → Int) : St := { s with es := s.es.map (moveU s.es was) }
def arriveU (was : Int → Int) (u : List Int) : List Int := if 0 < was (fld u 0) ∧ fld u 6 = 1 ∧ fld u 3 = fld u 7 ∧ fld u 4 = fld u 8 then turnR u 0 else u
def arriveS (s : St) (was : Int → Int) : St := { s with es := s.es.map (arriveU was) }
theorem count_two {es : List (List Int)} {p : List Int → Bool} {i j : Nat} (hij : i < j) (hj : j < es.length) (hpi : p (es[i]'(by omega)) = true) (hpj : p es[j] = true) : 2 ≤ es.countP p := by
  have e : es = es.take j ++ es.drop j := (List.take_append_drop j es).symm
  rw [e, List.countP_append]
  have h1 : 0 < (es.take j).countP p := by
    rw [List.countP_pos_iff]
    refine ⟨es[i]'(by omega), ?_, hpi⟩
    rw [List.mem_iff_getElem]
    exact ⟨i, by rw [List.length_take]; omega, by simp⟩
  have h2 : 0 < (es.drop j).countP p := by
    rw [List.countP_pos_iff]
    refine ⟨es[j], ?_, hpj⟩
    rw [List.mem_iff_getElem]
    exact ⟨0, by rw [List.length_drop]; omega, by simp⟩
  omega
theorem count_one {es : List (List Int)} {p : List Int → Bool} {u : List Int} (hu : u ∈ es) (hp : p u = true) : 1 ≤ es.countP p := List.countP_pos_iff.2 ⟨u, hu, hp⟩
theorem InvM.target {s : St} (h : InvM s) {u : List Int} (hu : u ∈ s.es) (hd : fld u 6 = 2 ∨ fld u 6 = 3) : 0 ≤ idxZ (isId (fld u 9)) s.es ∧ tgtE s.es u ∈ s.es ∧ fld (tgtE s.es u) 0 = fld u 9 ∧ mayE (fld u 6) u (tgtE s.es u) = true := by
  have ht := h.tg u hu
  have h9 : 0 < fld u 9 := by
    unfold targetE at ht
    have hb : (fld u 6 == 2 || fld u 6 == 3) = true := by
      rcases hd with e | e <;> rw [e] <;> rfl
    rw [hb] at ht
    simpa using ht
  have hz : ¬ idxZ (isId (fld u 9)) s.es < 0 := by
    intro hz
    obtain ⟨v, hv, he, _⟩ := h.am u hu h9
    obtain ⟨k, hk, rfl⟩ := List.mem_iff_getElem.1 hv
    have := idxZ_neg_iff.1 hz k hk
    rw [rec_at hk] at this
    unfold isId at this
    rw [he] at this
    simp at this
  obtain ⟨hk, hp⟩ := idxZ_at (show 0 ≤ idxZ (isId (fld u 9)) s.es by omega)
  have hm : tgtE s.es u ∈ s.es := by
    unfold tgtE
    rw [rec_at hk]
    exact List.getElem_mem hk
  have he : fld (tgtE s.es u) 0 = fld u 9 := eq_of_beq hp
  refine ⟨by omega, hm, he, ?_⟩
  obtain ⟨v, hv, hve, hc⟩ := h.am u hu h9
  have huniq : v = tgtE s.es u := by
    obtain ⟨a, ha, rfl⟩ := List.mem_iff_getElem.1 hv
    obtain ⟨b, hb, hbe⟩ := List.mem_iff_getElem.1 hm
    rw [← hbe] at he ⊢
    have hpw := List.pairwise_iff_getElem.1 h.up
    rcases Nat.lt_trichotomy a b with hlt | heq | hgt
    · have := hpw a b ha hb hlt; omega
    · subst heq; rfl
    · have := hpw b a hb ha hgt; omega
  rw [← huniq]
  exact hc
theorem InvM.on {s : St} (h : InvM s) {u : List Int} (hu : u ∈ s.es) : OnU u := (boundsE_true (h.bd u hu)).2.2.1
theorem InvM.aimU {s : St} (h : InvM s) {u : List Int} (hu : u ∈ s.es) : AimU s.es u := fun hd => ⟨(h.target hu hd).1, h.on (h.target hu hd).2.1⟩
theorem wish_on {s : St} (h : InvM s) {was : Int → Int} {u : List Int} (hu : u ∈ s.es) {x y : Int} (hw : wishE s.es was u = some (x, y)) : (0 ≤ x ∧ x < 12) ∧ 0 ≤ y ∧ y < 12 := by
  unfold wishE at hw
  split at hw
  next hc =>
    simp only [Option.some.injEq, Prod.mk.injEq] at hw
    obtain ⟨rfl, rfl⟩ := hw
    have hon := h.on hu
    have hh : (0 ≤ headX s.es u ∧ headX s.es u < 12) ∧ 0 ≤ headY s.es u ∧ headY s.es u < 12 := by
      by_cases h1 : fld u 6 = 1
      · have hp := h.pl u hu
        unfold placeE at hp
        rw [if_pos h1, Bool.and_eq_true] at hp
        unfold headX headY
        rw [if_pos h1, if_pos h1]
        exact Pl.onB_true hp.1
      · by_cases h2 : fld u 6 = 2 ∨ fld u 6 = 3
        · unfold headX headY
          rw [if_neg h1, if_pos h2, if_neg h1, if_pos h2]
          exact h.on (h.target hu h2).2.1
        · have := hc.1
          unfold headB at this
          rw [if_neg h1, if_neg h2] at this
          cases this
    exact ⟨Pl.nearZ_bd _ _ ⟨hon.1, hh.1⟩, Pl.nearZ_bd _ _ ⟨hon.2, hh.2⟩⟩
  · cases hw
theorem moveU_cases (es : List (List Int)) (was : Int → Int) (u : List Int) : (∃ x y, wishE es was u = some (x, y) ∧ claimsE es was x y = 1 ∧ moveU es was u = updR 10 (updR 10 u 3 x) 4 y) ∨ moveU es was u = u := by
  unfold moveU
  cases hw : wishE es was u with
  | none => exact Or.inr rfl
  | some p =>
    obtain ⟨x, y⟩ := p
    simp only
    split
    next hc => exact Or.inl ⟨x, y, rfl, hc, rfl⟩
    · exact Or.inr rfl
theorem moved_fld (u : List Int) (x y : Int) : (∀ j, j < 10 → j ≠ 3 → j ≠ 4 → fld (updR 10 (updR 10 u 3 x) 4 y) j = fld u j) ∧ fld (updR 10 (updR 10 u 3 x) 4 y) 3 = x ∧ fld (updR 10 (updR 10 u 3 x) 4 y) 4 = y := by
  refine ⟨fun j hj h3 h4 => ?_, ?_, ?_⟩
  · rw [fld_updR _ _ _ hj, if_neg h4, fld_updR _ _ _ hj, if_neg h3]
  · rw [fld_updR _ _ _ (by omega), if_neg (by omega), fld_updR _ _ _ (by omega), if_pos rfl]
  · rw [fld_updR _ _ _ (by omega), if_pos rfl]
theorem moveU_fld (es : List (List Int)) (was : Int → Int) (u : List Int) {j : Nat} (hj : j < 10) (h3 : j ≠ 3) (h4 : j ≠ 4) : fld (moveU es was u) j = fld u j := by
  rcases moveU_cases es was u with ⟨x, y, _, _, e⟩ | e
  · rw [e]; exact (moved_fld u x y).1 j hj h3 h4
  · rw [e]
theorem inv_move {s : St} (h : InvM s) (was : Int → Int) : InvM (moveS s was) := by
  have f := fun u {j : Nat} (hj : j < 10) (h3 : j ≠ 3) (h4 : j ≠ 4) => moveU_fld s.es was u hj h3 h4
  refine invM_map h (moveU s.es was) (fun u _ => ⟨f u (by omega) (by omega) (by omega), f u (by omega) (by omega) (by omega), f u (by omega) (by omega) (by omega)⟩) ?_ ?_ ?_ ?_ ?_
  · intro u hu
    have hb := h.bd u hu
    have hon : Pl.onB (fld (moveU s.es was u) 3) (fld (moveU s.es was u) 4) = true := by
      rcases moveU_cases s.es was u with ⟨x, y, hw, _, e⟩ | e
      · rw [e, (moved_fld u x y).2.1, (moved_fld u x y).2.2]
        exact Pl.onB_mk (wish_on h hu hw)
      · rw [e]
        exact Pl.onB_mk (h.on hu)
    unfold boundsE at hb ⊢
    rw [hon, f u (j := 0) (by omega) (by omega) (by omega), f u (j := 2) (by omega) (by omega) (by omega), f u (j := 5) (by omega) (by omega) (by omega), f u (j := 6) (by omega) (by omega) (by omega), f u (j := 9) (by omega) (by omega) (by omega)]
    simp only [Bool.and_eq_true] at hb ⊢
    exact ⟨hb.1, hb.2.1, trivial, hb.2.2.2⟩
  · intro u hu
    have hp := h.pl u hu
    unfold placeE at hp ⊢
    rw [f u (j := 2) (by omega) (by omega) (by omega), f u (j := 6) (by omega) (by omega) (by omega), f u (j := 7) (by omega) (by omega) (by omega), f u (j := 8) (by omega) (by omega) (by omega)]
    exact hp
  · intro u hu
    have hp := h.tg u hu
    unfold targetE at hp ⊢
    rw [f u (j := 6) (by omega) (by omega) (by omega), f u (j := 9) (by omega) (by omega) (by omega)]
    exact hp
  · rw [List.pairwise_map, List.pairwise_iff_getElem]
    intro i j hi hj hij hxy
    have hmi : s.es[i] ∈ s.es := List.getElem_mem hi
    have hmj : s.es[j] ∈ s.es := List.getElem_mem hj
    have at_self : ∀ v : List Int, isAt (fld v 3) (fld v 4) v = true := fun v => by unfold isAt; simp
    rcases moveU_cases s.es was s.es[i] with ⟨x, y, hw, hc, e⟩ | e
    · rw [e, (moved_fld _ x y).2.1, (moved_fld _ x y).2.2] at hxy
      rcases moveU_cases s.es was s.es[j] with ⟨x2, y2, hw2, hc2, e2⟩ | e2
      · rw [e2, (moved_fld _ x2 y2).2.1, (moved_fld _ x2 y2).2.2] at hxy
        obtain ⟨rfl, rfl⟩ := hxy
        have := count_two (es := s.es) (p := fun u => decide (wishE s.es was u = some (x, y))) hij hj (decide_eq_true hw) (decide_eq_true hw2)
        unfold claimsE at hc
        omega
      · rw [e2] at hxy
        have h1 := count_one (p := isAt x y) hmj (by rw [hxy.1, hxy.2]; exact at_self _)
        have h2 := count_one (p := fun u => decide (wishE s.es was u = some (x, y))) hmi (decide_eq_true hw)
        unfold claimsE at hc
        omega
    · rw [e] at hxy
      rcases moveU_cases s.es was s.es[j] with ⟨x2, y2, hw2, hc2, e2⟩ | e2
      · rw [e2, (moved_fld _ x2 y2).2.1, (moved_fld _ x2 y2).2.2] at hxy
        have h1 := count_one (p := isAt x2 y2) hmi (by rw [← hxy.1, ← hxy.2]; exact at_self _)
        have h2 := count_one (p := fun u => decide (wishE s.es was u = some (x2, y2))) hmj (decide_eq_true hw2)
        unfold claimsE at hc2
        omega
      · rw [e2] at hxy
        exact List.pairwise_iff_getElem.1 h.ap i j hi hj hij hxy
  · intro u hu h9
    rw [f u (j := 9) (by omega) (by omega) (by omega)] at h9 ⊢
    obtain ⟨v, hv, he, hc⟩ := h.am u hu h9
    refine ⟨v, hv, he, ?_⟩
    unfold mayE mineE fightE at hc ⊢
    rw [f u (j := 6) (by omega) (by omega) (by omega), f u (j := 1) (by omega) (by omega) (by omega), f u (j := 2) (by omega) (by omega) (by omega)]
    exact hc
theorem turn0_ok {u : List Int} (hb : boundsE u = true) : boundsE (turnR u 0) = true ∧ placeE (turnR u 0) = true ∧ targetE (turnR u 0) = true := by
  obtain ⟨h5, h6, h7, h8, h9⟩ := turnR_fld u 0
  refine ⟨?_, ?_, ?_⟩
  · unfold boundsE at hb ⊢
    rw [h5 0 (by omega), h5 2 (by omega), h5 3 (by omega), h5 4 (by omega), h5 5 (by omega), h6, h9]
    simp only [Bool.and_eq_true] at hb ⊢
    exact ⟨hb.1, hb.2.1, hb.2.2.1, hb.2.2.2.1, rfl, rfl⟩
  · unfold placeE
    rw [h6, h7, h8]
    rfl
  · unfold targetE
    rw [h6, h9]
    rfl
theorem inv_arrive {s : St} (h : InvM s) (was : Int → Int) : InvM (arriveS s was) := by
  have cs : ∀ u, arriveU was u = turnR u 0 ∨ arriveU was u = u := fun u => by
    unfold arriveU
    split
    · exact Or.inl rfl
    · exact Or.inr rfl
  have f5 : ∀ u, ∀ j, j < 6 → fld (arriveU was u) j = fld u j := fun u j hj => by
    rcases cs u with e | e
    · rw [e]; exact (turnR_fld u 0).1 j hj
    · rw [e]
  refine invM_map h (arriveU was) (fun u _ => ⟨f5 u 0 (by omega), f5 u 1 (by omega), f5 u 2 (by omega)⟩) ?_ ?_ ?_ ?_ ?_
  · intro u hu
    rcases cs u with e | e
    · rw [e]; exact (turn0_ok (h.bd u hu)).1
    · rw [e]; exact h.bd u hu
  · intro u hu
    rcases cs u with e | e
    · rw [e]; exact (turn0_ok (h.bd u hu)).2.1
    · rw [e]; exact h.pl u hu
  · intro u hu
    rcases cs u with e | e
    · rw [e]; exact (turn0_ok (h.bd u hu)).2.2
    · rw [e]; exact h.tg u hu
  · rw [List.pairwise_map]
    exact h.ap.imp fun {a b} hab => by rw [f5 a 3 (by omega), f5 b 3 (by omega), f5 a 4 (by omega), f5 b 4 (by omega)]; exact hab
  · intro u hu h9
    rcases cs u with e | e
    · rw [e, (turnR_fld u 0).2.2.2.2] at h9
      omega
    · rw [e] at h9 ⊢
      exact h.am u hu h9
end Go.Proofs.Ytgiieepfhohmhab
namespace Go.Proofs.Ytgiieepfhohmhab
open Go.RowKit Go.Maps
def strikeB (es : List (List Int)) (was : Int → Int) (u : List Int) : Bool := decide (was (fld u 0) ≠ 0) && (decide (fld u 9 ≠ 0) && nearE u (tgtE es u))
def amountE (u : List Int) : Int := if fld u 6 = 2 then Pl.eHarm (fld u 2) else Pl.eLoad (fld u 2)
def lessE (es : List (List Int)) (was : Int → Int) (l : List (List Int)) (id : Int) : Int :=
  l.foldl (fun n u => if strikeB es was u = true ∧ fld u 9 = id then n + amountE u else n) 0
def hurtU (es : List (List Int)) (was : Int → Int) (u : List Int) : List Int := updR 10 u 5 (fld u 5 - lessE es was es (fld u 0))
def earnE (es : List (List Int)) (was : Int → Int) (o : Int) (l : List (List Int)) (g : Int) : Int :=
  l.foldl (fun n u => if strikeB es was u = true ∧ fld u 6 ≠ 2 ∧ fld u 1 = o then min (n + Pl.eLoad (fld u 2)) 40 else n) g
def strikeS (s : St) (was : Int → Int) : St := { s with g0 := earnE s.es was 0 s.es s.g0, g1 := earnE s.es was 1 s.es s.g1, es := s.es.map (hurtU s.es was) }
def aliveB (u : List Int) : Bool := decide (0 < fld u 5)
def idleU (es : List (List Int)) (u : List Int) : List Int := if 0 < fld u 9 ∧ idxZ (isId (fld u 9)) es < 0 then turnR u 0 else u
def buryS (s : St) : St := { s with free := s.free ++ idsE (s.es.filter (fun u => !aliveB u)), es := (s.es.filter aliveB).map (idleU (s.es.filter aliveB)) }
def endS (s : St) (was : Int → Int) : St := { buryS (strikeS (arriveS (moveS s was) was) was) with t := s.t + 1 }
theorem amount_nonneg (u : List Int) : 0 ≤ amountE u ∧ amountE u ≤ 3 := by
  unfold amountE Pl.eHarm Pl.eLoad
  split
  · split
    · omega
    · split
      · omega
      · split <;> omega
  · split
    · omega
    · split <;> omega
theorem load_nonneg (k : Int) : 0 ≤ Pl.eLoad k ∧ Pl.eLoad k ≤ 2 := by
  unfold Pl.eLoad
  split
  · omega
  · split <;> omega
theorem less_nonneg (es : List (List Int)) (was : Int → Int) (l : List (List Int)) (id : Int) : 0 ≤ lessE es was l id := by
  have : ∀ (l : List (List Int)) (n : Int), 0 ≤ n → 0 ≤ l.foldl (fun n u => if strikeB es was u = true ∧ fld u 9 = id then n + amountE u else n) n := by
    intro l
    induction l with
    | nil => exact fun n h => h
    | cons u l ih =>
      intro n h
      rw [List.foldl_cons]
      apply ih
      split
      · have := (amount_nonneg u).1
        omega
      · exact h
  exact this l 0 (Int.le_refl _)
theorem earn_bd (es : List (List Int)) (was : Int → Int) (o : Int) (l : List (List Int)) : ∀ g : Int, 0 ≤ g ∧ g ≤ 40 → 0 ≤ earnE es was o l g ∧ earnE es was o l g ≤ 40 := by
  unfold earnE
  induction l with
  | nil => exact fun g h => h
  | cons u l ih =>
    intro g h
    rw [List.foldl_cons]
    apply ih
    split
    · have := load_nonneg (fld u 2)
      omega
    · exact h
theorem filter_perm (l : List (List Int)) (p : List Int → Bool) : (l.filter p ++ l.filter (fun u => !p u)).Perm l := by
  induction l with
  | nil => exact List.Perm.refl _
  | cons a l ih =>
    cases h : p a with
    | true =>
      rw [List.filter_cons_of_pos h, List.filter_cons_of_neg (by simp [h])]
      exact List.Perm.cons _ ih
    | false =>
      rw [List.filter_cons_of_neg (by simp [h]), List.filter_cons_of_pos (by simp [h])]
      exact List.perm_middle.trans (List.Perm.cons _ ih)
theorem inv_bury {s : St} (h : InvM s) (g : List Int → List Int) (hg : ∀ u j, j < 10 → j ≠ 5 → fld (g u) j = fld u j) (h5 : ∀ u, fld (g u) 5 ≤ fld u 5) {g0 g1 : Int} (hg0 : 0 ≤ g0 ∧ g0 ≤ 40) (hg1 : 0 ≤ g1 ∧ g1 ≤ 40) {t : Int} (ht : 0 ≤ t ∧ t ≤ 60) :
    InvM { buryS { s with g0 := g0, g1 := g1, es := s.es.map g } with t := t } := by
  have L : ∀ u, u ∈ (s.es.map g).filter aliveB → ∃ v, v ∈ s.es ∧ u = g v ∧ 0 < fld (g v) 5 := by
    intro u hu
    rw [List.mem_filter, List.mem_map] at hu
    obtain ⟨⟨v, hv, rfl⟩, hp⟩ := hu
    unfold aliveB at hp
    rw [decide_eq_true_eq] at hp
    exact ⟨v, hv, rfl, hp⟩
  have hbd : ∀ u ∈ (s.es.map g).filter aliveB, boundsE u = true := by
    intro u hu
    obtain ⟨v, hv, rfl, hp⟩ := L u hu
    have hb := h.bd v hv
    unfold boundsE at hb ⊢
    rw [hg v 0 (by omega) (by omega), hg v 2 (by omega) (by omega), hg v 3 (by omega) (by omega), hg v 4 (by omega) (by omega), hg v 6 (by omega) (by omega), hg v 9 (by omega) (by omega)]
    simp only [Bool.and_eq_true] at hb ⊢
    refine ⟨hb.1, hb.2.1, hb.2.2.1, ?_, hb.2.2.2.2⟩
    have h1 := hb.2.2.2.1
    unfold inZ at h1 ⊢
    rw [decide_eq_true_eq] at h1 ⊢
    have := h5 v
    omega
  have hpl : ∀ u ∈ (s.es.map g).filter aliveB, placeE u = true := by
    intro u hu
    obtain ⟨v, hv, rfl, hp⟩ := L u hu
    have hb := h.pl v hv
    unfold placeE at hb ⊢
    rw [hg v 2 (by omega) (by omega), hg v 6 (by omega) (by omega), hg v 7 (by omega) (by omega), hg v 8 (by omega) (by omega)]
    exact hb
  have htg : ∀ u ∈ (s.es.map g).filter aliveB, targetE u = true := by
    intro u hu
    obtain ⟨v, hv, rfl, hp⟩ := L u hu
    have hb := h.tg v hv
    unfold targetE at hb ⊢
    rw [hg v 6 (by omega) (by omega), hg v 9 (by omega) (by omega)]
    exact hb
  have how : ∀ u ∈ (s.es.map g).filter aliveB, ownerE u = true := by
    intro u hu
    obtain ⟨v, hv, rfl, hp⟩ := L u hu
    have hb := h.ow v hv
    unfold ownerE at hb ⊢
    rw [hg v 1 (by omega) (by omega), hg v 2 (by omega) (by omega)]
    exact hb
  have hup : ((s.es.map g).filter aliveB).Pairwise (fun a b => fld a 0 < fld b 0) := by
    refine List.Pairwise.filter _ ?_
    rw [List.pairwise_map]
    exact h.up.imp fun {a b} hab => by rw [hg a 0 (by omega) (by omega), hg b 0 (by omega) (by omega)]; exact hab
  have hap : ((s.es.map g).filter aliveB).Pairwise (fun a b => ¬ (fld a 3 = fld b 3 ∧ fld a 4 = fld b 4)) := by
    refine List.Pairwise.filter _ ?_
    rw [List.pairwise_map]
    exact h.ap.imp fun {a b} hab => by rw [hg a 3 (by omega) (by omega), hg b 3 (by omega) (by omega), hg a 4 (by omega) (by omega), hg b 4 (by omega) (by omega)]; exact hab
  have hids : idsE (s.es.map g) = idsE s.es := by
    unfold idsE
    rw [List.map_map]
    exact List.map_congr_left fun u _ => hg u 0 (by omega) (by omega)
  have hpm := filter_perm (s.es.map g) aliveB
  have hlen : ((s.es.map g).filter aliveB).length + ((s.es.map g).filter (fun u => !aliveB u)).length = s.es.length := by
    have := hpm.length_eq
    rw [List.length_append, List.length_map] at this
    exact this
  have hpid : (idsE ((s.es.map g).filter aliveB) ++ idsE ((s.es.map g).filter (fun u => !aliveB u))).Perm (idsE s.es) := by
    rw [← hids]
    unfold idsE
    rw [← List.map_append]
    exact hpm.map _
  generalize hA : (s.es.map g).filter aliveB = A at L hbd hpl htg how hup hap hlen hpid
  generalize hD : (s.es.map g).filter (fun u => !aliveB u) = D at hlen hpid
  have cs : ∀ u, idleU A u = turnR u 0 ∨ (idleU A u = u ∧ (0 < fld u 9 → 0 ≤ idxZ (isId (fld u 9)) A)) := fun u => by
    unfold idleU
    split
    · exact Or.inl rfl
    next hc => exact Or.inr ⟨rfl, fun h9 => by
      by_cases hz : idxZ (isId (fld u 9)) A < 0
      · exact absurd ⟨h9, hz⟩ hc
      · omega⟩
  have f5 : ∀ u, ∀ j, j < 6 → fld (idleU A u) j = fld u j := fun u j hj => by
    rcases cs u with e | ⟨e, _⟩
    · rw [e]; exact (turnR_fld u 0).1 j hj
    · rw [e]
  have hes : (buryS { s with g0 := g0, g1 := g1, es := s.es.map g }).es = A.map (idleU A) := by unfold buryS; simp only; rw [hA]
  have hfree : (buryS { s with g0 := g0, g1 := g1, es := s.es.map g }).free = s.free ++ idsE D := by unfold buryS; simp only; rw [hD]
  have hidA : idsE (A.map (idleU A)) = idsE A := by
    unfold idsE
    rw [List.map_map]
    exact List.map_congr_left fun u _ => f5 u 0 (by omega)
  have hmem : ∀ (P : List Int → Prop), (∀ u ∈ A, P (idleU A u)) → ∀ v ∈ A.map (idleU A), P v := by
    intro P hP v hv
    obtain ⟨u, hu, rfl⟩ := List.mem_map.1 hv
    exact hP u hu
  have hDl : (idsE D).length = D.length := by unfold idsE; rw [List.length_map]
  have hsm := h.sm
  have hn1 := h.n1
  refine ⟨ht.1, ht.2, h.n0, h.n1, hg0, hg1, ?_, ?_, ?_, ?_, ?_, ?_, ?_, ?_, ?_, ?_, ?_, ?_⟩
  all_goals simp only [hes, hfree]
  · rw [List.length_map]
    have := h.el
    omega
  · rw [List.length_append, hDl]
    omega
  · exact hmem (fun v => boundsE v = true) fun u hu => by
      rcases cs u with e | ⟨e, _⟩
      · rw [e]; exact (turn0_ok (hbd u hu)).1
      · rw [e]; exact hbd u hu
  · exact hmem (fun v => ownerE v = true) fun u hu => by
      have := how u hu
      unfold ownerE at this ⊢
      rw [f5 u 1 (by omega), f5 u 2 (by omega)]
      exact this
  · exact hmem (fun v => placeE v = true) fun u hu => by
      rcases cs u with e | ⟨e, _⟩
      · rw [e]; exact (turn0_ok (hbd u hu)).2.1
      · rw [e]; exact hpl u hu
  · exact hmem (fun v => targetE v = true) fun u hu => by
      rcases cs u with e | ⟨e, _⟩
      · rw [e]; exact (turn0_ok (hbd u hu)).2.2
      · rw [e]; exact htg u hu
  · refine hmem (fun v => fld v 0 < (buryS { s with g0 := g0, g1 := g1, es := s.es.map g }).nx) fun u hu => ?_
    obtain ⟨v, hv, rfl, _⟩ := L u hu
    rw [f5 _ 0 (by omega), hg v 0 (by omega) (by omega)]
    exact h.lt v hv
  · rw [List.pairwise_map]
    exact hup.imp fun {a b} hab => by rw [f5 a 0 (by omega), f5 b 0 (by omega)]; exact hab
  · rw [List.pairwise_map]
    exact hap.imp fun {a b} hab => by rw [f5 a 3 (by omega), f5 b 3 (by omega), f5 a 4 (by omega), f5 b 4 (by omega)]; exact hab
  · refine hmem (fun v => 0 < fld v 9 → ∃ w ∈ A.map (idleU A), fld w 0 = fld v 9 ∧ mayE (fld v 6) v w = true) fun u hu h9 => ?_
    rcases cs u with e | ⟨e, hfound⟩
    · rw [e, (turnR_fld u 0).2.2.2.2] at h9
      omega
    · rw [e] at h9 ⊢
      obtain ⟨hk, hp⟩ := idxZ_at (hfound h9)
      rw [rec_at hk] at hp
      have hwm := List.getElem_mem hk
      have hwe : fld A[(idxZ (isId (fld u 9)) A).toNat] 0 = fld u 9 := eq_of_beq hp
      generalize A[(idxZ (isId (fld u 9)) A).toNat] = w at hwm hwe
      obtain ⟨v, hv, rfl, _⟩ := L u hu
      obtain ⟨x, hx, rfl, _⟩ := L w hwm
      rw [hg v 9 (by omega) (by omega)] at h9 hwe
      rw [hg x 0 (by omega) (by omega)] at hwe
      obtain ⟨y, hy, hye, hyc⟩ := h.am v hv h9
      have hxy : y = x := by
        obtain ⟨a, ha, rfl⟩ := List.mem_iff_getElem.1 hy
        obtain ⟨b, hb, rfl⟩ := List.mem_iff_getElem.1 hx
        have hpw := List.pairwise_iff_getElem.1 h.up
        rcases Nat.lt_trichotomy a b with hlt | heq | hgt
        · have := hpw a b ha hb hlt; omega
        · subst heq; rfl
        · have := hpw b a hb ha hgt; omega
      subst hxy
      refine ⟨idleU A (g y), List.mem_map.2 ⟨g y, hwm, rfl⟩, ?_, ?_⟩
      · rw [f5 _ 0 (by omega), hg y 0 (by omega) (by omega), hg v 9 (by omega) (by omega)]
        exact hwe
      · unfold mayE mineE fightE at hyc ⊢
        rw [f5 _ 1 (by omega), f5 _ 2 (by omega), hg y 1 (by omega) (by omega), hg y 2 (by omega) (by omega), hg v 1 (by omega) (by omega), hg v 2 (by omega) (by omega), hg v 6 (by omega) (by omega)]
        exact hyc
  · rw [List.length_map, List.length_append, hDl]
    show _ = s.nx - 1
    omega
  · intro j hj
    rw [hidA]
    have hp : (idsE A ++ (s.free ++ idsE D)).Perm (idsE s.es ++ s.free) := by
      rw [← List.append_assoc]
      have h1 : (idsE A ++ s.free ++ idsE D).Perm (idsE A ++ (idsE D ++ s.free)) := by
        rw [List.append_assoc]
        exact List.Perm.append_left _ List.perm_append_comm
      refine h1.trans ?_
      rw [← List.append_assoc]
      exact hpid.append_right _
    rw [hp.count_eq]
    exact h.fr j hj
theorem inv_end {s : St} (h : Inv s) (ht : s.t < 60) (was : Int → Int) : Inv (endS s was) := by
  have h2 := inv_arrive (inv_move h.mem was) was
  have ht0 := h.t0
  exact (inv_bury h2 (hurtU (arriveS (moveS s was) was).es was) (fun u j hj h5 => by unfold hurtU; rw [fld_updR _ _ _ hj, if_neg h5]) (fun u => by
    unfold hurtU
    rw [fld_updR _ _ _ (by omega), if_pos rfl]
    have := less_nonneg (arriveS (moveS s was) was).es was (arriveS (moveS s was) was).es (fld u 0)
    omega) (earn_bd _ _ 0 _ _ h2.a0) (earn_bd _ _ 1 _ _ h2.a1) (t := s.t + 1) ⟨by omega, by omega⟩).inv
end Go.Proofs.Ytgiieepfhohmhab
namespace Go.Proofs.Ytgiieepfhohmhab
open Go.RowKit Go.Maps
structure Grew (s0 s : St) : Prop where
  sub : ∀ x ∈ idsE s0.es, x ∈ idsE s.es
  new : ∀ x ∈ s.born, x ∉ idsE s0.es
  len : s.es.length ≤ s0.es.length + s.born.length
  each : ∀ u ∈ s.es, fld u 0 ∈ s.born ∨ ∃ o ∈ s0.es, (∀ j, j < 6 → fld u j = fld o j)
theorem grew_refl (s : St) (hb : s.born = []) : Grew s s :=
  ⟨fun _ h => h, (fun x hx => by rw [hb] at hx; cases hx), (by rw [hb]; simp), fun u hu => Or.inr ⟨u, hu, fun _ _ => rfl⟩⟩
theorem mem_set_cases {es : List (List Int)} {i : Nat} {u v : List Int} (h : v ∈ es.set i u) : v ∈ es ∨ v = u := by
  rcases List.mem_or_eq_of_mem_set h with h | h
  · exact Or.inl h
  · exact Or.inr h
theorem grew_set {s0 s : St} (h : Grew s0 s) {i : Nat} (hi : i < s.es.length) {u : List Int} (hs : ∀ j, j < 6 → fld u j = fld (rec s.es i) j) : Grew s0 { s with es := s.es.set i u } := by
  have hal : idsE (s.es.set i u) = idsE s.es := by
    unfold idsE
    rw [List.map_set]
    apply List.ext_getElem (by simp)
    intro k h1 h2
    rw [List.getElem_set]
    split
    next e =>
      subst e
      rw [List.getElem_map, ← rec_at hi]
      exact hs 0 (by omega)
    · rfl
  refine ⟨fun x hx => by show x ∈ idsE (s.es.set i u); rw [hal]; exact h.sub x hx, h.new, by simpa using h.len, fun v hv => ?_⟩
  rcases mem_set_cases hv with hv | rfl
  · exact h.each v hv
  · have hm : rec s.es i ∈ s.es := by rw [rec_at hi]; exact List.getElem_mem hi
    rcases h.each _ hm with hb | ⟨o, ho, he⟩
    · exact Or.inl (by rw [hs 0 (by omega)]; exact hb)
    · exact Or.inr ⟨o, ho, fun j hj => (hs j hj).trans (he j hj)⟩
theorem take_facts {s s1 : St} {id : Int} (h : Inv s) (ht : takeS s = some (id, s1)) : s1.es = s.es ∧ s1.born = s.born ∧ id ∉ idsE s.es := by
  unfold takeS at ht
  split at ht
  next hf =>
    split at ht
    · cases ht
    · cases ht
      refine ⟨rfl, rfl, fun hm => ?_⟩
      exact absurd (h.known (List.mem_append_left _ hm)).2.1 (Int.lt_irrefl _)
  next hf =>
    cases ht
    have hfl : 0 < s.free.length := List.length_pos_iff.2 hf
    have hsplit : s.free = s.free.take (s.free.length - 1) ++ [fld s.free (s.free.length - 1)] := by
      have := nums_take (l := s.free) (k := s.free.length - 1) (by omega)
      rw [Nat.sub_add_cancel hfl, List.take_length] at this
      exact this
    refine ⟨rfl, rfl, fun hm => ?_⟩
    generalize fld s.free (s.free.length - 1) = id at hsplit hm
    have k3 := (h.known (List.mem_append_left s.free hm)).2.2
    rw [hsplit, ← List.append_assoc, List.count_append, List.count_append] at k3
    have h1 : 0 < (idsE s.es).count id := List.count_pos_iff.2 hm
    have h2 : [id].count id = 1 := by simp
    omega
theorem grew_build {s0 s : St} (hI : Inv s) (h : Grew s0 s) (u q : List Int) : Grew s0 (buildS s u q) := by
  unfold buildS
  split
  case isFalse => exact h
  case isTrue =>
    split
    · exact h
    next id s1 htk =>
      obtain ⟨he, hb, hid⟩ := take_facts hI htk
      have hne' : ∀ i, i < s.es.length → fld (rec s.es i) 0 ≠ fld (newU id (fld u 1) (fld q 3) (fld q 4) (fld q 5)) 0 := fun i hi e => hid (mem_ids.2 ⟨i, hi, e⟩)
      obtain ⟨k, hk, hins, _, _⟩ := ins_split hI.up hne'
      have hes : insE s1.es (newU id (fld u 1) (fld q 3) (fld q 4) (fld q 5)) = s.es.take k ++ newU id (fld u 1) (fld q 3) (fld q 4) (fld q 5) :: s.es.drop k := by rw [he]; exact hins
      have hids := ids_ins (es := s.es) (u := newU id (fld u 1) (fld q 3) (fld q 4) (fld q 5)) k
      refine ⟨?_, ?_, ?_, ?_⟩
      · intro x hx
        show x ∈ idsE (insE s1.es _)
        rw [hes, hids.mem_iff]
        exact List.mem_cons_of_mem _ (h.sub x hx)
      · intro x hx hm
        have hx' : x ∈ s1.born ++ [id] := hx
        rw [hb, List.mem_append] at hx'
        rcases hx' with hx' | hx'
        · exact h.new x hx' hm
        · have : x = id := by simpa using hx'
          rw [this] at hm
          exact hid (h.sub id hm)
      · show (insE s1.es _).length ≤ s0.es.length + (s1.born ++ [id]).length
        rw [hes, hb]
        have := h.len
        simp only [List.length_append, List.length_cons, List.length_nil, List.length_take, List.length_drop]
        omega
      · intro v hv
        have hv' : v ∈ insE s1.es (newU id (fld u 1) (fld q 3) (fld q 4) (fld q 5)) := hv
        rw [hes] at hv'
        show fld v 0 ∈ s1.born ++ [id] ∨ _
        rw [hb]
        rcases List.mem_append.1 hv' with hv' | hv'
        · rcases h.each v (List.mem_of_mem_take hv') with hx | hx
          · exact Or.inl (List.mem_append_left _ hx)
          · exact Or.inr hx
        · rcases List.mem_cons.1 hv' with rfl | hv'
          · exact Or.inl (List.mem_append_right _ (by show id ∈ [id]; simp))
          · rcases h.each v (List.mem_of_mem_drop hv') with hx | hx
            · exact Or.inl (List.mem_append_left _ hx)
            · exact Or.inr hx
theorem grew_cmd {s0 s : St} (hI : Inv s) (h : Grew s0 s) (q : List Int) : Grew s0 (cmdS s q) := by
  unfold cmdS
  split
  · exact h
  next hz =>
    obtain ⟨hi, _⟩ := idxZ_at (show 0 ≤ idxZ (isId (fld q 2)) s.es by omega)
    generalize (idxZ (isId (fld q 2)) s.es).toNat = i at hi
    split
    · unfold doS
      split
      · unfold goS
        split
        · refine grew_set h hi fun j hj => ?_
          rw [fld_updR _ _ _ (by omega), if_neg (by omega), fld_updR _ _ _ (by omega), if_neg (by omega)]
          exact (turnR_fld _ 1).1 j hj
        · exact h
      · split
        · unfold aimS
          split
          · refine grew_set h hi fun j hj => ?_
            rw [fld_updR _ _ _ (by omega), if_neg (by omega)]
            exact (turnR_fld _ 2).1 j hj
          · exact h
        · split
          · unfold aimS
            split
            · refine grew_set h hi fun j hj => ?_
              rw [fld_updR _ _ _ (by omega), if_neg (by omega)]
              exact (turnR_fld _ 3).1 j hj
            · exact h
          · split
            · exact grew_build hI h _ q
            · split
              · exact grew_set h hi fun j hj => (turnR_fld _ 0).1 j hj
              · exact h
    · exact h
def cmdsS (s : St) (l : List (List Int)) : St := l.foldl cmdS s
theorem cmds_ok {s0 : St} : ∀ (l : List (List Int)) (s : St), Inv s → Grew s0 s → Inv (cmdsS s l) ∧ Grew s0 (cmdsS s l) := by
  intro l
  induction l with
  | nil => exact fun s h g => ⟨h, g⟩
  | cons q l ih => exact fun s h g => ih (cmdS s q) (inv_cmd h q) (grew_cmd h g q)
theorem build_t (s : St) (u q : List Int) : (buildS s u q).t = s.t := by
  unfold buildS
  split
  · split
    · rfl
    next id s1 htk =>
      have h1 : s1.t = s.t := by
        unfold takeS at htk
        split at htk
        · split at htk
          · cases htk
          · cases htk; rfl
        · cases htk; rfl
      have h2 : ∀ o c, (payS s1 o c).t = s1.t := fun o c => by
        unfold payS
        split <;> rfl
      exact (h2 _ _).trans h1
  · rfl
theorem cmdS_t (s : St) (q : List Int) : (cmdS s q).t = s.t := by
  unfold cmdS doS goS aimS stopS
  repeat' (first | rfl | exact build_t _ _ _ | split)
theorem cmdsS_t (l : List (List Int)) : ∀ s : St, (cmdsS s l).t = s.t := by
  induction l with
  | nil => exact fun s => rfl
  | cons q l ih => exact fun s => (ih (cmdS s q)).trans (cmdS_t s q)
theorem near_one (a b : Int) : Pl.apartZ a (Pl.nearZ a b) ≤ 1 := by
  unfold Pl.apartZ Pl.nearZ
  split <;> split <;> (try split) <;> omega
theorem far_self (x y : Int) : Pl.farZ x y x y ≤ 1 := by
  unfold Pl.farZ Pl.apartZ
  simp
theorem move_far (es : List (List Int)) (was : Int → Int) (u : List Int) : Pl.farZ (fld u 3) (fld u 4) (fld (moveU es was u) 3) (fld (moveU es was u) 4) ≤ 1 := by
  rcases moveU_cases es was u with ⟨x, y, hw, _, e⟩ | e
  · rw [e, (moved_fld u x y).2.1, (moved_fld u x y).2.2]
    unfold wishE at hw
    split at hw
    · simp only [Option.some.injEq, Prod.mk.injEq] at hw
      obtain ⟨rfl, rfl⟩ := hw
      have h1 := near_one (fld u 3) (headX es u)
      have h2 := near_one (fld u 4) (headY es u)
      unfold Pl.farZ
      split <;> assumption
    · cases hw
  · rw [e]; exact far_self _ _
theorem end_each {s : St} (_h : Inv s) (was : Int → Int) : (endS s was).born = s.born ∧ (endS s was).es.length ≤ s.es.length ∧ ∀ e ∈ (endS s was).es, ∃ u ∈ s.es, fld e 0 = fld u 0 ∧ fld e 1 = fld u 1 ∧ fld e 2 = fld u 2 ∧ fld e 5 ≤ fld u 5 ∧ Pl.farZ (fld u 3) (fld u 4) (fld e 3) (fld e 4) ≤ 1 := by
  refine ⟨rfl, ?_, ?_⟩
  · show (((((s.es.map _).map _).map _).filter aliveB).map _).length ≤ s.es.length
    rw [List.length_map]
    refine Nat.le_trans (List.length_filter_le _ _) ?_
    simp
  · intro e he
    have he' : e ∈ ((((s.es.map (moveU s.es was)).map (arriveU was)).map (hurtU (arriveS (moveS s was) was).es was)).filter aliveB).map (idleU _) := he
    obtain ⟨a, ha, rfl⟩ := List.mem_map.1 he'
    have ha := (List.mem_filter.1 ha).1
    obtain ⟨b, hb, rfl⟩ := List.mem_map.1 ha
    obtain ⟨c, hc, rfl⟩ := List.mem_map.1 hb
    obtain ⟨u, hu, rfl⟩ := List.mem_map.1 hc
    have i5 : ∀ A (x : List Int), ∀ j, j < 6 → fld (idleU A x) j = fld x j := fun A x j hj => by
      unfold idleU
      split
      · exact (turnR_fld x 0).1 j hj
      · rfl
    have a5 : ∀ (x : List Int), ∀ j, j < 6 → fld (arriveU was x) j = fld x j := fun x j hj => by
      unfold arriveU
      split
      · exact (turnR_fld x 0).1 j hj
      · rfl
    have h5 : ∀ (x : List Int), ∀ j, j < 10 → j ≠ 5 → fld (hurtU (arriveS (moveS s was) was).es was x) j = fld x j := fun x j hj hj5 => by unfold hurtU; rw [fld_updR _ _ _ hj, if_neg hj5]
    have hh : ∀ (x : List Int), fld (hurtU (arriveS (moveS s was) was).es was x) 5 ≤ fld x 5 := fun x => by
      unfold hurtU
      rw [fld_updR _ _ _ (by omega), if_pos rfl]
      have := less_nonneg (arriveS (moveS s was) was).es was (arriveS (moveS s was) was).es (fld x 0)
      omega
    have m := fun {j : Nat} (hj : j < 10) (h3 : j ≠ 3) (h4 : j ≠ 4) => moveU_fld s.es was u hj h3 h4
    refine ⟨u, hu, ?_, ?_, ?_, ?_, ?_⟩
    · rw [i5 _ _ 0 (by omega), h5 _ 0 (by omega) (by omega), a5 _ 0 (by omega), m (by omega) (by omega) (by omega)]
    · rw [i5 _ _ 1 (by omega), h5 _ 1 (by omega) (by omega), a5 _ 1 (by omega), m (by omega) (by omega) (by omega)]
    · rw [i5 _ _ 2 (by omega), h5 _ 2 (by omega) (by omega), a5 _ 2 (by omega), m (by omega) (by omega) (by omega)]
    · rw [i5 _ _ 5 (by omega)]
      refine Int.le_trans (hh _) ?_
      rw [a5 _ 5 (by omega), m (by omega) (by omega) (by omega)]
      exact Int.le_refl _
    · rw [i5 _ _ 3 (by omega), i5 _ _ 4 (by omega), h5 _ 3 (by omega) (by omega), h5 _ 4 (by omega) (by omega), a5 _ 3 (by omega), a5 _ 4 (by omega)]
      exact move_far s.es was u
end Go.Proofs.Ytgiieepfhohmhab
