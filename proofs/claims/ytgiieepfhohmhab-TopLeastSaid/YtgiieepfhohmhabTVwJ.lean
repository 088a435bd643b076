/- Views: one shape for both games: what view.Elder and view.Newer answer. -/
import Derived.Deep.DeepCutAuto
import Derived.Deep.RegionHeld3
import Derived.BigQuiet
import Derived.BigRegion
import Derived.Lib.SliceRun
import Derived.Test.YtgiieepfhohmhabTElA
import Derived.Test.YtgiieepfhohmhabTElB
import Derived.Test.YtgiieepfhohmhabTMemA
import Derived.Test.YtgiieepfhohmhabTRefBA
import Derived.Test.YtgiieepfhohmhabTHdA
import Derived.Test.YtgiieepfhohmhabTGiA
import Derived.Test.YtgiieepfhohmhabTOkA
import Derived.Test.YtgiieepfhohmhabTEqCA
import Derived.Test.YtgiieepfhohmhabTSw
import Derived.Test.YtgiieepfhohmhabTSt
import Derived.Test.YtgiieepfhohmhabTPlyAA
import Derived.Test.YtgiieepfhohmhabTVwX
import Derived.Test.YtgiieepfhohmhabTVwZ
namespace Go.Proofs.Ytgiieepfhohmhab
open Go.RowKit Go.Maps
structure Fair (es : List (List Int)) : Prop where
  on : OnB es
  ap : Apart2 es
  one : ∀ a ∈ es, ∀ b ∈ es, fld a 0 = fld b 0 → a = b
  pos : ∀ a ∈ es, 0 < fld a 0
  tg : ∀ u ∈ es, fld u 9 = 0 ∨ (0 < fld u 9 ∧ ∃ v ∈ es, fld v 0 = fld u 9)
theorem one_of_up {es : List (List Int)} (h : es.Pairwise (fun a b => fld a 0 < fld b 0)) : ∀ a ∈ es, ∀ b ∈ es, fld a 0 = fld b 0 → a = b := by
  intro u hu v hv he
  obtain ⟨i, hi, rfl⟩ := List.mem_iff_getElem.1 hu
  obtain ⟨j, hj, rfl⟩ := List.mem_iff_getElem.1 hv
  have hp := List.pairwise_iff_getElem.1 h
  rcases Nat.lt_trichotomy i j with hij | hij | hij
  · have := hp i j hi hj hij; omega
  · subst hij; rfl
  · have := hp j i hj hi hij; omega
theorem fairM {s : St} (h : InvM s) : Fair s.es where
  on := fun u hu => h.on hu
  ap := h.ap
  one := one_of_up h.up
  pos := fun u hu => by have := (boundsE_true (h.bd u hu)).2.1; omega
  tg := fun u hu => by
    have hb := h.bd u hu
    have h9 : 0 ≤ fld u 9 := by
      unfold boundsE inZ at hb
      simp only [Bool.and_eq_true, decide_eq_true_eq] at hb
      exact hb.2.2.2.2.2.1
    by_cases h0 : fld u 9 = 0
    · exact Or.inl h0
    · have hp : 0 < fld u 9 := by omega
      obtain ⟨v, hv, e, _⟩ := h.am u hu hp
      exact Or.inr ⟨hp, v, hv, e⟩
theorem fair_view {es : List (List Int)} (h : Fair es) {d : Array (List Int)} (hp : Sort.PermIn 0 (es.map (sawP es)).toArray.size (es.map (sawP es)).toArray d) (hs : Sort.SortedIn (ltOf rowsZ) 0 (es.map (sawP es)).toArray.size d) : d.toList = viewL es := by
  have e : es.map (sawP es) = es.map (sawR es) := List.map_congr_left fun u hu => by
    unfold sawP sawR
    rw [spot_tgt h.one h.pos (h.tg u hu)]
  exact sorted_is h.on h.ap (d := (es.map (sawP es)).toArray) (by simpa using e) hp hs
theorem fair_len {es : List (List Int)} (h : Fair es) : (viewL es).length = es.length := by
  have := (viewL_perm h.on).length_eq
  rw [this, List.length_map]
def zeroW : Vw := ⟨0, 0, 0, []⟩
def vwE (s : St) : Vw := if checkE s.t s.g0 s.g1 s.nx s.free s.es = 0 then ⟨s.t, s.g0, s.g1, viewL s.es⟩ else zeroW
def AnsV (c : Nat) (v : Vw) (w : World) (e : Ending) (w' : World) : Prop := ∃ va vc, e = .returned (.tuple #[viewV v.t v.g0 v.g1 (.slice va v.ss.length vc), errV c]) ∧ Recs w' va 10 v.ss ∧ Below w.heap.size w w'
theorem vwE_len (s : St) : (vwE s).ss.length ≤ 20 := by
  unfold vwE
  split
  next h =>
    have hI := (inv_of_check h).mem
    have := hI.el
    show (viewL s.es).length ≤ 20
    rw [fair_len (fairM hI)]
    exact this
  · exact Nat.zero_le _
theorem viewE_all {ρ : Go.Shelf.Ren} (Ly : SlLaysF0.n6 Try.prog ρ) (h6 : ρ.f 6 = 46) (h24 : ρ.t 24 = 74)
    (HN0 : Hid (∀ w, Calls Try.prog 46 #[.slice none 0 0, .func (.func 47) #[] #[]] w fun e w' => e = .returned (.tuple #[]) ∧ w' = w))
    (s : St) (fa ea : Option Addr) (fc ec : Nat) (w : World) (h : InE w s fa ea fc ec) :
    Calls Try.prog 19 #[elderV s.t s.g0 s.g1 s.nx (.slice fa s.free.length fc) (.slice ea s.es.length ec)] w (AnsV (checkE s.t s.g0 s.g1 s.nx s.free s.es) (vwE s) w) := by
  by_cases hc : checkE s.t s.g0 s.g1 s.nx s.free s.es = 0
  · refine (viewElder_good Ly h6 h24 HN0 s fa ea fc ec w h hc).mono ?_
    rintro e w' ⟨va, vc, d, rfl, hp, hs, hr, hb⟩
    have hF := fairM (inv_of_check hc).mem
    have ev : vwE s = ⟨s.t, s.g0, s.g1, viewL s.es⟩ := if_pos hc
    rw [fair_view hF hp hs] at hr
    refine ⟨va, vc, ?_, by rw [ev]; exact hr, hb⟩
    rw [ev, hc]
    show _ = Ending.returned (.tuple #[viewV s.t s.g0 s.g1 (.slice va (viewL s.es).length vc), errV 0])
    rw [fair_len hF]
    rfl
  · refine (viewElder_check s fa ea fc ec w h hc).mono ?_
    rintro e w' ⟨rfl, hb⟩
    have ev : vwE s = zeroW := if_neg hc
    refine ⟨none, 0, ?_, by rw [ev]; exact Or.inl rfl, hb⟩
    rw [ev]
    rfl
end Go.Proofs.Ytgiieepfhohmhab
