/- Proved: for every state and every list of commands TopElder answers true: a state that is right stays so whatever is commanded; a tick goes up, nobody gains HP, goes further than one step, or comes without being built. No condition. -/
import Derived.Test.YtgiieepfhohmhaaRows
import Derived.Test.YtgiieepfhohmhaaTe
import Derived.Test.YtgiieepfhohmhaaRdA
import Derived.WalkKit
import Derived.ProofKit
import Derived.OpenShut
import Derived.ShutString
import Derived.ChangeOld
import Derived.Below
namespace Go.Proofs.Ytgiieepfhohmhaa.topElder
open Go.ChangeShapes Go.WideShapes Go.ChangeAt Go.RowKit
set_option linter.unusedVariables false

theorem own : ownKnob Try.prog.godebug = none := by kernel_rfl
theorem laidOut : laidOutB Try.prog = true := by kernel_rfl

theorem walk (s : St) (fa ea la : Option Addr) (fc ec lc : Nat) (l : List (List Int)) (w : World) (h : InE w s fa ea fc ec) (hl : Recs w la 7 l) :
    Calls Try.prog 8 #[elderV s.t s.g0 s.g1 s.nx (.slice fa s.free.length fc) (.slice ea s.es.length ec), .slice la l.length lc] w fun e w' => e = .returned (.bool true) ∧ Below w.heap.size w w' := by
  by_cases hc : checkE s.t s.g0 s.g1 s.nx s.free s.es = 0
  · by_cases hm : 8 < l.length ∨ s.t = 60
    · exact topElder_bad s fa ea la fc ec lc l w 2 (by omega) (fun W hb => step_many s fa ea la fc ec lc l W (h.below hb) hc hm)
    · exact topElder_good s fa ea la fc ec lc l w h hl hc (by omega) (fun e => hm (Or.inr e))
  · exact topElder_bad s fa ea la fc ec lc l w _ hc (fun W hb => step_check s fa ea la fc ec lc l W (h.below hb) hc)

set_option maxRecDepth 100000 in
set_option maxHeartbeats 2000000 in
theorem lifted (os : Os) (started : os.Started) (H : Type) (enc : TypeId × Value → H) :
    ReturnsInHanded {} Try.checked os 8 .any (Rows.topElderSpec.pre6 enc Try.prog Try.f8 Rows.topElderRow.domain false) (Rows.topElderSpec.post enc Try.prog Try.f8 false true false false) := by
  refine returnsInHanded_of_change (C := Try.checked) own started (by kernel_rfl) Try.func8
    (ChangeSpec.witness6 (enc := enc) (C := Try.checked) false ⟨#[], #[.agg #[.int .i64 0, .int .i64 0, .int .i64 0, .int .i64 0, .slice none 0 0, .slice none 0 0], .slice none 0 0], []⟩ 8 (by kernel_rfl) (by kernel_rfl) (by kernel_rfl) (by kernel_rfl)) ?_
  intro W base args ds gs before hval0 hW hcnd _
  have hval : ∀ (j : Nat) t v, Try.f8.params[j]? = some t → args[j]? = some v → Value.okWide Try.prog W .any base t v := hval0
  have hW' := hW
  obtain ⟨p, q, hA0, hV, rfl, hfz, hnd⟩ := hW
  have hA : DataW.TrodAll enc Try.prog W 0 (fun _ => true) true Try.f8.params.toList args.toList ds p := hA0
  rw [Try.params8] at hA hval
  obtain ⟨v0, vs0, d0, ds0, p0, q0, hargs, rfl, rfl, h0, r0⟩ := trodAll_cons hA
  obtain ⟨v1, vs1, d1, ds1, p1, q1, rfl, rfl, rfl, h1, r1⟩ := trodAll_cons r0
  obtain ⟨rfl, rfl, rfl⟩ := trodAll_nil r1
  obtain rfl : args = #[v0, v1] := by cases args; simp_all
  obtain ⟨rfl, rfl⟩ := trodVars_none hV
  obtain ⟨cs, rfl, _⟩ := okWide_struct Try.underlying60 (hval 0 60 v0 rfl rfl)
  have k0 := h0
  have lt0 : ∀ x ∈ p0, x.block < W.heap.size := by obtain ⟨m, hm⟩ := k0; exact DataW.trod_lt m _ _ _ hm
  have k1 := h1
  have lt1 : ∀ x ∈ p1, x.block < W.heap.size := by obtain ⟨m, hm⟩ := k1; exact DataW.trod_lt m _ _ _ hm
  obtain ⟨fuel0, hf0⟩ := h0
  obtain ⟨s, fa, ea, fc, ec, rfl, hin⟩ := open_elder (cs := cs) hf0
  obtain ⟨la0, len1, cap1, rfl⟩ := okWide_slice Try.underlying61 (hval 1 61 v1 rfl rfl)
  obtain ⟨fuel1, hf1⟩ := h1
  obtain ⟨la, lc, l, hv1, hrl, _, _, _⟩ := open_recs (k := 7) (by omega) Try.underlying61 Try.underlying69 cmd_cellsOf (by kernel_rfl) (v := .slice la0 len1 cap1) hf1
  cases hv1
  clear hA0 hval0
  refine (walk s fa ea la0 fc ec cap1 l W hin hrl).mono fun e W' ⟨he, bel⟩ => ?_
  subst he
  exact ⟨_, rfl, _, _, _, [], _, [], hW', trodAll_mk1 (shut_bool Try.underlying4 _), (trodAll_cons_mk (Below.trod laidOut (by kernel_rfl) (of_decide_eq_true (by kernel_rfl)) k0 bel lt0) (trodAll_cons_mk (Below.trod laidOut (by kernel_rfl) (of_decide_eq_true (by kernel_rfl)) k1 bel lt1) trodAll_mk0)), rfl, bel.frame _, fun h => by cases h⟩

theorem over : Rows.topElderRow.holds Try.pinned (OpenSpec.ofChange Rows.topElderSpec) :=
  OpenClaim.holds_of_wide 8 Try.f8 rfl rfl rfl rfl rfl rfl rfl ⟨rfl, rfl, rfl, rfl, rfl⟩ rfl rfl rfl rfl rfl (by kernel_rfl) Try.func8 (by kernel_rfl)
    (of_decide_eq_true (by kernel_rfl)) (by unfold Func.isWrapper; first | (rw [if_pos (by decide +kernel)]; kernel_rfl) | (rw [if_neg (by decide +kernel)]; exact ⟨rfl, rfl⟩))
    (fun os started H enc _ => lifted os started H enc)

end Go.Proofs.Ytgiieepfhohmhaa.topElder
namespace Go.Proofs.Ytgiieepfhohmhaa
theorem topElder_holds : Rows.TopElderSaid := topElder.over
end Go.Proofs.Ytgiieepfhohmhaa
