/- Views: one shape for both games: what view.Elder and view.Newer answer. -/
import Derived.Test.YtgiieepfhohmhaaVEqN
import Derived.Test.YtgiieepfhohmhaaVVwY
import Derived.Test.YtgiieepfhohmhaaVVwZ
namespace Go.Proofs.Ytgiieepfhohmhaa
open Go.RowKit Go.Maps
theorem frecF {f : List Int → List Int} (hf : ∀ u j, j < 10 → fld (f u) j = fld u j) (es : List (List Int)) (i : Nat) {j : Nat} (h : j < 10) : fld (rec (es.map f) i) j = fld (rec es i) j := by
  by_cases hi : i < es.length
  · rw [rec_at (by simpa using hi), rec_at hi, List.getElem_map, hf _ _ h]
  · have e1 : rec (es.map f) i = [] := by
      unfold rec
      rw [List.getD_eq_getElem?_getD, List.getElem?_eq_none (by simpa using hi)]
      rfl
    have e2 : rec es i = [] := by
      unfold rec
      rw [List.getD_eq_getElem?_getD, List.getElem?_eq_none (by omega)]
      rfl
    rw [e1, e2]
theorem whoF {f : List Int → List Int} (hf : ∀ u j, j < 10 → fld (f u) j = fld u j) (z : Int) (es : List (List Int)) : whoZ z (es.map f) = whoZ z es := by
  unfold whoZ
  rw [List.findIdx?_map]
  have : (fun r => fld r 0 == z) ∘ f = (fun r => fld r 0 == z) := by
    funext u
    show (fld (f u) 0 == z) = _
    rw [hf u 0 (by omega)]
  rw [this]
theorem sawF {f : List Int → List Int} (hf : ∀ u j, j < 10 → fld (f u) j = fld u j) (es : List (List Int)) (u : List Int) : sawR (es.map f) (f u) = sawR es u := by
  have ht : tgtZ (es.map f) (f u) = tgtZ es u := by
    unfold tgtZ
    rw [hf u 9 (by omega), whoF hf, frecF hf _ _ (by omega), frecF hf _ _ (by omega)]
  unfold sawR
  rw [ht]
  unfold seenZ
  rw [hf u 3 (by omega), hf u 4 (by omega), hf u 1 (by omega), hf u 2 (by omega), hf u 5 (by omega), hf u 6 (by omega), hf u 7 (by omega), hf u 8 (by omega)]
theorem cellF {f : List Int → List Int} (hf : ∀ u j, j < 10 → fld (f u) j = fld u j) (es : List (List Int)) (y x : Nat) : cellL (es.map f) y x = cellL es y x := by
  unfold cellL
  rw [List.filter_map, List.map_map]
  have e : (atB (x : Int) (y : Int)) ∘ f = atB (x : Int) (y : Int) := by
    funext u
    show atB _ _ (f u) = _
    unfold atB
    rw [hf u 3 (by omega), hf u 4 (by omega)]
  rw [e]
  refine List.map_congr_left fun u _ => ?_
  exact sawF hf es u
theorem viewF {f : List Int → List Int} (hf : ∀ u j, j < 10 → fld (f u) j = fld u j) (es : List (List Int)) : viewL (es.map f) = viewL es := by
  unfold viewL rowL
  have e : ∀ y, cellL (es.map f) y = cellL es y := fun y => funext fun x => cellF hf es y x
  simp only [e]
theorem tenF (u : List Int) (j : Nat) (h : j < 10) : fld (tenZ u) j = fld u j := by
  match j, h with
  | 0, _ | 1, _ | 2, _ | 3, _ | 4, _ | 5, _ | 6, _ | 7, _ | 8, _ | 9, _ => rfl
structure Fair (es : List (List Int)) : Prop where
  on : OnB es
  ap : Apart2 es
  one : ∀ a ∈ es, ∀ b ∈ es, fld a 0 = fld b 0 → a = b
  pos : ∀ a ∈ es, 0 < fld a 0
  tg : ∀ u ∈ es, fld u 9 = 0 ∨ (0 < fld u 9 ∧ ∃ v ∈ es, fld v 0 = fld u 9)
theorem one_of_up {es : List (List Int)} (h : es.Pairwise (fun a b => fld a 0 < fld b 0)) : ∀ a ∈ es, ∀ b ∈ es, fld a 0 = fld b 0 → a = b := by
  intro u hu v hv he
  obtain ⟨i, hi, rfl⟩ := List.mem_iff_getElem.1 hu
  obtain ⟨j, hj, rfl⟩ := List.mem_iff_getElem.1 hv
  have hp := List.pairwise_iff_getElem.1 h
  rcases Nat.lt_trichotomy i j with hij | hij | hij
  · have := hp i j hi hj hij; omega
  · subst hij; rfl
  · have := hp j i hj hi hij; omega
theorem fairM {s : St} (h : InvM s) : Fair s.es where
  on := fun u hu => h.on hu
  ap := h.ap
  one := one_of_up h.up
  pos := fun u hu => by have := (boundsE_true (h.bd u hu)).2.1; omega
  tg := fun u hu => by
    have hb := h.bd u hu
    have h9 : 0 ≤ fld u 9 := by
      unfold boundsE inZ at hb
      simp only [Bool.and_eq_true, decide_eq_true_eq] at hb
      exact hb.2.2.2.2.2.1
    by_cases h0 : fld u 9 = 0
    · exact Or.inl h0
    · have hp : 0 < fld u 9 := by omega
      obtain ⟨v, hv, e, _⟩ := h.am u hu hp
      exact Or.inr ⟨hp, v, hv, e⟩
theorem fairN {s : St} (h : InvN s) : Fair s.es where
  on := fun u hu => (boundsN_true (h.bd u hu)).2.1
  ap := h.ap
  one := one_of_up h.up
  pos := fun u hu => by have := (boundsN_true (h.bd u hu)).1; omega
  tg := fun u hu => by
    have h9 := (boundsN_true (h.bd u hu)).2.2.2.2.1
    by_cases h0 : fld u 9 = 0
    · exact Or.inl h0
    · have hp : 0 < fld u 9 := by omega
      obtain ⟨v, hv, e, _⟩ := h.am u hu hp
      exact Or.inr ⟨hp, v, hv, e⟩
theorem fairF {f : List Int → List Int} (hf : ∀ u j, j < 10 → fld (f u) j = fld u j) {es : List (List Int)} (h : Fair es) : Fair (es.map f) where
  on := fun u hu => by
    obtain ⟨a, ha, rfl⟩ := List.mem_map.1 hu
    rw [hf a 3 (by omega), hf a 4 (by omega)]
    exact h.on a ha
  ap := by
    unfold Apart2
    rw [List.pairwise_map]
    refine List.Pairwise.imp ?_ h.ap
    intro a b hab
    rw [hf a 3 (by omega), hf a 4 (by omega), hf b 3 (by omega), hf b 4 (by omega)]
    exact hab
  one := fun u hu v hv e => by
    obtain ⟨a, ha, rfl⟩ := List.mem_map.1 hu
    obtain ⟨b, hb, rfl⟩ := List.mem_map.1 hv
    rw [hf a 0 (by omega), hf b 0 (by omega)] at e
    rw [h.one a ha b hb e]
  pos := fun u hu => by
    obtain ⟨a, ha, rfl⟩ := List.mem_map.1 hu
    rw [hf a 0 (by omega)]
    exact h.pos a ha
  tg := fun u hu => by
    obtain ⟨a, ha, rfl⟩ := List.mem_map.1 hu
    rw [hf a 9 (by omega)]
    rcases h.tg a ha with h0 | ⟨h9, v, hv, e⟩
    · exact Or.inl h0
    · exact Or.inr ⟨h9, f v, List.mem_map_of_mem hv, by rw [hf v 0 (by omega)]; exact e⟩
theorem fair_view {es : List (List Int)} (h : Fair es) {d : Array (List Int)} (hp : Sort.PermIn 0 (es.map (sawP es)).toArray.size (es.map (sawP es)).toArray d) (hs : Sort.SortedIn (ltOf rowsZ) 0 (es.map (sawP es)).toArray.size d) : d.toList = viewL es := by
  have e : es.map (sawP es) = es.map (sawR es) := List.map_congr_left fun u hu => by
    unfold sawP sawR
    rw [spot_tgt h.one h.pos (h.tg u hu)]
  exact sorted_is h.on h.ap (d := (es.map (sawP es)).toArray) (by simpa using e) hp hs
theorem fair_len {es : List (List Int)} (h : Fair es) : (viewL es).length = es.length := by
  have := (viewL_perm h.on).length_eq
  rw [this, List.length_map]
def zeroW : Vw := ⟨0, 0, 0, []⟩
def vwE (s : St) : Vw := if checkE s.t s.g0 s.g1 s.nx s.free s.es = 0 then ⟨s.t, s.g0, s.g1, viewL s.es⟩ else zeroW
def vwN (s : St) : Vw := if ckN s = 0 then ⟨s.t, s.g0, s.g1, viewL s.es⟩ else zeroW
def AnsV (c : Nat) (v : Vw) (w : World) (e : Ending) (w' : World) : Prop := ∃ va vc, e = .returned (.tuple #[viewV v.t v.g0 v.g1 (.slice va v.ss.length vc), errV c]) ∧ Recs w' va 10 v.ss ∧ Below w.heap.size w w'
theorem vwE_len (s : St) : (vwE s).ss.length ≤ 20 := by
  unfold vwE
  split
  next h =>
    have hI := (inv_of_check h).mem
    have := hI.el
    show (viewL s.es).length ≤ 20
    rw [fair_len (fairM hI)]
    exact this
  · exact Nat.zero_le _
theorem vwN_len (s : St) (hf : s.free = []) : (vwN s).ss.length ≤ 20 := by
  unfold vwN
  split
  next h =>
    have hI := invN_of_check hf h
    have := hI.el
    show (viewL s.es).length ≤ 20
    rw [fair_len (fairN hI)]
    exact this
  · exact Nat.zero_le _
theorem viewE_all {ρ : Go.Shelf.Ren} (Ly : SlLaysF0.n6 Try.prog ρ) (h6 : ρ.f 6 = 169) (h24 : ρ.t 24 = 171)
    (HN0 : Hid (∀ w, Calls Try.prog 169 #[.slice none 0 0, .func (.func 170) #[] #[]] w fun e w' => e = .returned (.tuple #[]) ∧ w' = w))
    (s : St) (fa ea : Option Addr) (fc ec : Nat) (w : World) (h : InE w s fa ea fc ec) :
    Calls Try.prog 61 #[elderV s.t s.g0 s.g1 s.nx (.slice fa s.free.length fc) (.slice ea s.es.length ec)] w (AnsV (checkE s.t s.g0 s.g1 s.nx s.free s.es) (vwE s) w) := by
  by_cases hc : checkE s.t s.g0 s.g1 s.nx s.free s.es = 0
  · refine (viewElder_good Ly h6 h24 HN0 s fa ea fc ec w h hc).mono ?_
    rintro e w' ⟨va, vc, d, rfl, hp, hs, hr, hb⟩
    have hF := fairM (inv_of_check hc).mem
    have ev : vwE s = ⟨s.t, s.g0, s.g1, viewL s.es⟩ := if_pos hc
    rw [fair_view hF hp hs] at hr
    refine ⟨va, vc, ?_, by rw [ev]; exact hr, hb⟩
    rw [ev, hc]
    show _ = Ending.returned (.tuple #[viewV s.t s.g0 s.g1 (.slice va (viewL s.es).length vc), errV 0])
    rw [fair_len hF]
    rfl
  · refine (viewElder_check s fa ea fc ec w h hc).mono ?_
    rintro e w' ⟨rfl, hb⟩
    have ev : vwE s = zeroW := if_neg hc
    refine ⟨none, 0, ?_, by rw [ev]; exact Or.inl rfl, hb⟩
    rw [ev]
    rfl
theorem viewN_all {ρ : Go.Shelf.Ren} (Ly : SlLaysF0.n6 Try.prog ρ) (h6 : ρ.f 6 = 169) (h24 : ρ.t 24 = 171)
    (HN0 : Hid (∀ w, Calls Try.prog 169 #[.slice none 0 0, .func (.func 170) #[] #[]] w fun e w' => e = .returned (.tuple #[]) ∧ w' = w))
    (s : St) (ea : Option Addr) (ec : Nat) (w : World) (h : InW w s ea ec) :
    Calls Try.prog 64 #[newerV s.t s.g0 s.g1 s.nx (.slice ea s.es.length ec)] w (AnsV (ckN s) (vwN s) w) := by
  by_cases hc : ckN s = 0
  · refine (viewNewer_good Ly h6 h24 HN0 s ea ec w h hc).mono ?_
    rintro e w' ⟨va, vc, d, rfl, hp, hs, hr, hb⟩
    have hF0 := fairN (invN_of_check h.fr hc)
    have hF := fairF tenF hF0
    have ev : vwN s = ⟨s.t, s.g0, s.g1, viewL s.es⟩ := if_pos hc
    rw [fair_view hF hp hs, viewF tenF] at hr
    refine ⟨va, vc, ?_, by rw [ev]; exact hr, hb⟩
    rw [ev, hc]
    show _ = Ending.returned (.tuple #[viewV s.t s.g0 s.g1 (.slice va (viewL s.es).length vc), errV 0])
    rw [fair_len hF0, List.length_map]
    rfl
  · refine (viewNewer_check s ea ec w h hc).mono ?_
    rintro e w' ⟨rfl, hb⟩
    have ev : vwN s = zeroW := if_neg hc
    refine ⟨none, 0, ?_, by rw [ev]; exact Or.inl rfl, hb⟩
    rw [ev]
    rfl
end Go.Proofs.Ytgiieepfhohmhaa
