/- Proved: for every kind and all four numbers of places RulesSays answers true: rules and distances are what the table and the reference say. No condition. -/
import Derived.Test.YtnenegkgmkgfaaaRows
import Derived.Test.YtnenegkgmkgfaaaRules3
import Derived.WalkKit
import Derived.ProofKit
import Derived.OpenShut
namespace Go.Proofs.Ytnenegkgmkgfaaa.rulesSays
open Go.ChangeShapes Go.WideShapes Go.ChangeAt Go.RowKit
set_option linter.unusedVariables false

theorem own : ownKnob Try.prog.godebug = none := by kernel_rfl

set_option maxHeartbeats 1000000 in
theorem walk5 (a1 : Int) (a2 : Int) (a3 : Int) (a4 : Int) (w1 : (Lit.int .i64 a1).wf = true) (w2 : (Lit.int .i64 a2).wf = true) (w3 : (Lit.int .i64 a3).wf = true) (w4 : (Lit.int .i64 a4).wf = true) (w : World) :
    Calls Try.prog 4 #[.int .i64 5, .int .i64 a1, .int .i64 a2, .int .i64 a3, .int .i64 a4] w fun e w' => e = .returned (.bool true) ∧ Grown w w' := by
  clear w1 w2 w3 w4
  cases hon : Pl.onB a1 a2
  · go_enter Try.func4, Try.ntmps4
    go_wp2_with fail
    refine (ruled_calls _).mono ?_
    rintro e w' ⟨rfl, _, _, _, _, rfl⟩
    go_wp2_with fail
    refine (elder_calls 5 _).mono ?_
    rintro e w' ⟨rfl, rfl⟩
    go_wp2_with fail
    refine (ruleE_calls 5 _).mono ?_
    rintro e w' ⟨rfl, rfl⟩
    go_wp2_with fail
    refine (newer5 _).mono ?_
    rintro e w' ⟨rfl, rfl⟩
    go_wp2_with fail
    refine (ruleN_calls 5 _).mono ?_
    rintro e w' ⟨rfl, rfl⟩
    go_wp2_with fail
    refine (asRule_calls _ _ _ _ _ _ _).mono ?_
    rintro e w' ⟨rfl, _, _, _, _, rfl⟩
    have n1 : Pl.nCost 5 = 0 := rfl
    have n2 : Pl.nHP 5 = 0 := rfl
    have n3 : Pl.nSpeed 5 = 0 := rfl
    have n4 : Pl.nHarm 5 = 0 := rfl
    have n5 : Pl.nRange 5 = 0 := rfl
    have n6 : Pl.nLoad 5 = 0 := rfl
    rw [n1, n2, n3, n4, n5, n6]
    clear n1 n2 n3 n4 n5 n6
    go_wp2_with fail
    refine (asRule_calls _ _ _ _ _ _ _).mono ?_
    rintro e w' ⟨rfl, _, _, _, _, rfl⟩
    go_wp2_with fail
    refine (on_calls a1 a2 _).mono ?_
    rintro e w' ⟨rfl, rfl⟩
    go_wp2_with fail
    refine (refOn_calls a1 a2 _).mono ?_
    rintro e w' ⟨rfl, rfl⟩
    go_wp2_with fail
    refine (refOn_calls a1 a2 _).mono ?_
    rintro e w' ⟨rfl, rfl⟩
    rw [hon]
    go_wp2
    go_ret
    exact ⟨rfl, by repeat (first | apply Grown.alloc | exact Grown.refl _)⟩
  · cases hto : Pl.onB a3 a4
    · go_enter Try.func4, Try.ntmps4
      go_wp2_with fail
      refine (ruled_calls _).mono ?_
      rintro e w' ⟨rfl, _, _, _, _, rfl⟩
      go_wp2_with fail
      refine (elder_calls 5 _).mono ?_
      rintro e w' ⟨rfl, rfl⟩
      go_wp2_with fail
      refine (ruleE_calls 5 _).mono ?_
      rintro e w' ⟨rfl, rfl⟩
      go_wp2_with fail
      refine (newer5 _).mono ?_
      rintro e w' ⟨rfl, rfl⟩
      go_wp2_with fail
      refine (ruleN_calls 5 _).mono ?_
      rintro e w' ⟨rfl, rfl⟩
      go_wp2_with fail
      refine (asRule_calls _ _ _ _ _ _ _).mono ?_
      rintro e w' ⟨rfl, _, _, _, _, rfl⟩
      have n1 : Pl.nCost 5 = 0 := rfl
      have n2 : Pl.nHP 5 = 0 := rfl
      have n3 : Pl.nSpeed 5 = 0 := rfl
      have n4 : Pl.nHarm 5 = 0 := rfl
      have n5 : Pl.nRange 5 = 0 := rfl
      have n6 : Pl.nLoad 5 = 0 := rfl
      rw [n1, n2, n3, n4, n5, n6]
      clear n1 n2 n3 n4 n5 n6
      go_wp2_with fail
      refine (asRule_calls _ _ _ _ _ _ _).mono ?_
      rintro e w' ⟨rfl, _, _, _, _, rfl⟩
      go_wp2_with fail
      refine (on_calls a1 a2 _).mono ?_
      rintro e w' ⟨rfl, rfl⟩
      go_wp2_with fail
      refine (refOn_calls a1 a2 _).mono ?_
      rintro e w' ⟨rfl, rfl⟩
      go_wp2_with fail
      refine (refOn_calls a1 a2 _).mono ?_
      rintro e w' ⟨rfl, rfl⟩
      rw [hon]
      go_wp2_with fail
      refine (refOn_calls a3 a4 _).mono ?_
      rintro e w' ⟨rfl, rfl⟩
      rw [hto]
      go_wp2
      go_ret
      exact ⟨rfl, by repeat (first | apply Grown.alloc | exact Grown.refl _)⟩
    · have hb := Pl.onB_true hon
      have hc := Pl.onB_true hto
      go_enter Try.func4, Try.ntmps4
      go_wp2_with fail
      refine (ruled_calls _).mono ?_
      rintro e w' ⟨rfl, _, _, _, _, rfl⟩
      go_wp2_with fail
      refine (elder_calls 5 _).mono ?_
      rintro e w' ⟨rfl, rfl⟩
      go_wp2_with fail
      refine (ruleE_calls 5 _).mono ?_
      rintro e w' ⟨rfl, rfl⟩
      go_wp2_with fail
      refine (newer5 _).mono ?_
      rintro e w' ⟨rfl, rfl⟩
      go_wp2_with fail
      refine (ruleN_calls 5 _).mono ?_
      rintro e w' ⟨rfl, rfl⟩
      go_wp2_with fail
      refine (asRule_calls _ _ _ _ _ _ _).mono ?_
      rintro e w' ⟨rfl, _, _, _, _, rfl⟩
      have n1 : Pl.nCost 5 = 0 := rfl
      have n2 : Pl.nHP 5 = 0 := rfl
      have n3 : Pl.nSpeed 5 = 0 := rfl
      have n4 : Pl.nHarm 5 = 0 := rfl
      have n5 : Pl.nRange 5 = 0 := rfl
      have n6 : Pl.nLoad 5 = 0 := rfl
      rw [n1, n2, n3, n4, n5, n6]
      clear n1 n2 n3 n4 n5 n6
      go_wp2_with fail
      refine (asRule_calls _ _ _ _ _ _ _).mono ?_
      rintro e w' ⟨rfl, _, _, _, _, rfl⟩
      go_wp2_with fail
      refine (on_calls a1 a2 _).mono ?_
      rintro e w' ⟨rfl, rfl⟩
      go_wp2_with fail
      refine (refOn_calls a1 a2 _).mono ?_
      rintro e w' ⟨rfl, rfl⟩
      go_wp2_with fail
      refine (refOn_calls a1 a2 _).mono ?_
      rintro e w' ⟨rfl, rfl⟩
      rw [hon]
      go_wp2_with fail
      refine (refOn_calls a3 a4 _).mono ?_
      rintro e w' ⟨rfl, rfl⟩
      rw [hto]
      go_wp2_with fail
      refine (toward_calls a1 a2 a3 a4 hb hc _).mono ?_
      rintro e w' ⟨rfl, rfl⟩
      go_wp2_with fail
      refine (refToward_calls a1 a2 a3 a4 hb hc _).mono ?_
      rintro e w' ⟨rfl, rfl⟩
      go_wp2_with fail
      refine (far_calls a1 a2 a3 a4 hb hc _).mono ?_
      rintro e w' ⟨rfl, rfl⟩
      go_wp2_with fail
      refine (refFar_calls a1 a2 a3 a4 hb hc _).mono ?_
      rintro e w' ⟨rfl, rfl⟩
      go_wp2
      go_ret
      exact ⟨rfl, by repeat (first | apply Grown.alloc | exact Grown.refl _)⟩

set_option maxHeartbeats 1000000 in
theorem walkN (a0 : Int) (a1 : Int) (a2 : Int) (a3 : Int) (a4 : Int) (w0 : (Lit.int .i64 a0).wf = true) (w1 : (Lit.int .i64 a1).wf = true) (w2 : (Lit.int .i64 a2).wf = true) (w3 : (Lit.int .i64 a3).wf = true) (w4 : (Lit.int .i64 a4).wf = true) (h5 : a0 ≠ 5) (w : World) :
    Calls Try.prog 4 #[.int .i64 a0, .int .i64 a1, .int .i64 a2, .int .i64 a3, .int .i64 a4] w fun e w' => e = .returned (.bool true) ∧ Grown w w' := by
  clear w0 w1 w2 w3 w4
  cases hon : Pl.onB a1 a2
  · go_enter Try.func4, Try.ntmps4
    go_wp2_with fail
    refine (ruled_calls _).mono ?_
    rintro e w' ⟨rfl, _, _, _, _, rfl⟩
    go_wp2_with fail
    refine (elder_calls a0 _).mono ?_
    rintro e w' ⟨rfl, rfl⟩
    go_wp2_with fail
    refine (ruleE_calls a0 _).mono ?_
    rintro e w' ⟨rfl, rfl⟩
    go_wp2_with fail
    refine (newer_calls a0 h5 _).mono ?_
    rintro e w' ⟨rfl, _, _, _, _, _, _, rfl⟩
    go_wp2_with fail
    refine (ruleN_calls a0 _).mono ?_
    rintro e w' ⟨rfl, rfl⟩
    go_wp2_with fail
    refine (asRule_calls _ _ _ _ _ _ _).mono ?_
    rintro e w' ⟨rfl, _, _, _, _, rfl⟩
    go_wp2_with fail
    refine (asRule_calls _ _ _ _ _ _ _).mono ?_
    rintro e w' ⟨rfl, _, _, _, _, rfl⟩
    go_wp2_with fail
    refine (on_calls a1 a2 _).mono ?_
    rintro e w' ⟨rfl, rfl⟩
    go_wp2_with fail
    refine (refOn_calls a1 a2 _).mono ?_
    rintro e w' ⟨rfl, rfl⟩
    go_wp2_with fail
    refine (refOn_calls a1 a2 _).mono ?_
    rintro e w' ⟨rfl, rfl⟩
    rw [hon]
    go_wp2
    go_ret
    exact ⟨rfl, by repeat (first | apply Grown.alloc | exact Grown.refl _)⟩
  · cases hto : Pl.onB a3 a4
    · go_enter Try.func4, Try.ntmps4
      go_wp2_with fail
      refine (ruled_calls _).mono ?_
      rintro e w' ⟨rfl, _, _, _, _, rfl⟩
      go_wp2_with fail
      refine (elder_calls a0 _).mono ?_
      rintro e w' ⟨rfl, rfl⟩
      go_wp2_with fail
      refine (ruleE_calls a0 _).mono ?_
      rintro e w' ⟨rfl, rfl⟩
      go_wp2_with fail
      refine (newer_calls a0 h5 _).mono ?_
      rintro e w' ⟨rfl, _, _, _, _, _, _, rfl⟩
      go_wp2_with fail
      refine (ruleN_calls a0 _).mono ?_
      rintro e w' ⟨rfl, rfl⟩
      go_wp2_with fail
      refine (asRule_calls _ _ _ _ _ _ _).mono ?_
      rintro e w' ⟨rfl, _, _, _, _, rfl⟩
      go_wp2_with fail
      refine (asRule_calls _ _ _ _ _ _ _).mono ?_
      rintro e w' ⟨rfl, _, _, _, _, rfl⟩
      go_wp2_with fail
      refine (on_calls a1 a2 _).mono ?_
      rintro e w' ⟨rfl, rfl⟩
      go_wp2_with fail
      refine (refOn_calls a1 a2 _).mono ?_
      rintro e w' ⟨rfl, rfl⟩
      go_wp2_with fail
      refine (refOn_calls a1 a2 _).mono ?_
      rintro e w' ⟨rfl, rfl⟩
      rw [hon]
      go_wp2_with fail
      refine (refOn_calls a3 a4 _).mono ?_
      rintro e w' ⟨rfl, rfl⟩
      rw [hto]
      go_wp2
      go_ret
      exact ⟨rfl, by repeat (first | apply Grown.alloc | exact Grown.refl _)⟩
    · have hb := Pl.onB_true hon
      have hc := Pl.onB_true hto
      go_enter Try.func4, Try.ntmps4
      go_wp2_with fail
      refine (ruled_calls _).mono ?_
      rintro e w' ⟨rfl, _, _, _, _, rfl⟩
      go_wp2_with fail
      refine (elder_calls a0 _).mono ?_
      rintro e w' ⟨rfl, rfl⟩
      go_wp2_with fail
      refine (ruleE_calls a0 _).mono ?_
      rintro e w' ⟨rfl, rfl⟩
      go_wp2_with fail
      refine (newer_calls a0 h5 _).mono ?_
      rintro e w' ⟨rfl, _, _, _, _, _, _, rfl⟩
      go_wp2_with fail
      refine (ruleN_calls a0 _).mono ?_
      rintro e w' ⟨rfl, rfl⟩
      go_wp2_with fail
      refine (asRule_calls _ _ _ _ _ _ _).mono ?_
      rintro e w' ⟨rfl, _, _, _, _, rfl⟩
      go_wp2_with fail
      refine (asRule_calls _ _ _ _ _ _ _).mono ?_
      rintro e w' ⟨rfl, _, _, _, _, rfl⟩
      go_wp2_with fail
      refine (on_calls a1 a2 _).mono ?_
      rintro e w' ⟨rfl, rfl⟩
      go_wp2_with fail
      refine (refOn_calls a1 a2 _).mono ?_
      rintro e w' ⟨rfl, rfl⟩
      go_wp2_with fail
      refine (refOn_calls a1 a2 _).mono ?_
      rintro e w' ⟨rfl, rfl⟩
      rw [hon]
      go_wp2_with fail
      refine (refOn_calls a3 a4 _).mono ?_
      rintro e w' ⟨rfl, rfl⟩
      rw [hto]
      go_wp2_with fail
      refine (toward_calls a1 a2 a3 a4 hb hc _).mono ?_
      rintro e w' ⟨rfl, rfl⟩
      go_wp2_with fail
      refine (refToward_calls a1 a2 a3 a4 hb hc _).mono ?_
      rintro e w' ⟨rfl, rfl⟩
      go_wp2_with fail
      refine (far_calls a1 a2 a3 a4 hb hc _).mono ?_
      rintro e w' ⟨rfl, rfl⟩
      go_wp2_with fail
      refine (refFar_calls a1 a2 a3 a4 hb hc _).mono ?_
      rintro e w' ⟨rfl, rfl⟩
      go_wp2
      go_ret
      exact ⟨rfl, by repeat (first | apply Grown.alloc | exact Grown.refl _)⟩

theorem walk (a0 : Int) (a1 : Int) (a2 : Int) (a3 : Int) (a4 : Int) (w0 : (Lit.int .i64 a0).wf = true) (w1 : (Lit.int .i64 a1).wf = true) (w2 : (Lit.int .i64 a2).wf = true) (w3 : (Lit.int .i64 a3).wf = true) (w4 : (Lit.int .i64 a4).wf = true) (w : World) :
    Calls Try.prog 4 #[.int .i64 a0, .int .i64 a1, .int .i64 a2, .int .i64 a3, .int .i64 a4] w fun e w' => e = .returned (.bool true) ∧ Grown w w' := by
  by_cases h5 : a0 = 5
  · subst h5
    exact walk5 a1 a2 a3 a4 w1 w2 w3 w4 w
  · exact walkN a0 a1 a2 a3 a4 w0 w1 w2 w3 w4 h5 w

set_option maxRecDepth 100000 in
theorem lifted (os : Os) (started : os.Started) (H : Type) (enc : TypeId × Value → H) :
    ReturnsInHanded {} Try.checked os 4 .any (Rows.rulesSaysSpec.pre6 enc Try.prog Try.f4 Rows.rulesSaysRow.domain false) (Rows.rulesSaysSpec.post enc Try.prog Try.f4 false true false false) := by
  refine returnsInHanded_of_change (C := Try.checked) own started (by kernel_rfl) Try.func4
    (ChangeSpec.witness6 (enc := enc) (C := Try.checked) false ⟨#[], #[.int .i64 0, .int .i64 0, .int .i64 0, .int .i64 0, .int .i64 0], []⟩ 8 (by kernel_rfl) (by kernel_rfl) (by kernel_rfl) (by kernel_rfl)) ?_
  intro W base args ds gs before hval0 hW hcnd _
  have hval : ∀ (j : Nat) t v, Try.f4.params[j]? = some t → args[j]? = some v → Value.okWide Try.prog W .any base t v := hval0
  have hW' := hW
  obtain ⟨p, q, hA0, hV, rfl, hfz, hnd⟩ := hW
  have hA : DataW.TrodAll enc Try.prog W 0 (fun _ => true) true Try.f4.params.toList args.toList ds p := hA0
  rw [Try.params4] at hA hval
  obtain ⟨v0, vs0, d0, ds0, p0, q0, hargs, rfl, rfl, h0, r0⟩ := trodAll_cons hA
  obtain ⟨v1, vs1, d1, ds1, p1, q1, rfl, rfl, rfl, h1, r1⟩ := trodAll_cons r0
  obtain ⟨v2, vs2, d2, ds2, p2, q2, rfl, rfl, rfl, h2, r2⟩ := trodAll_cons r1
  obtain ⟨v3, vs3, d3, ds3, p3, q3, rfl, rfl, rfl, h3, r3⟩ := trodAll_cons r2
  obtain ⟨v4, vs4, d4, ds4, p4, q4, rfl, rfl, rfl, h4, r4⟩ := trodAll_cons r3
  obtain ⟨rfl, rfl, rfl⟩ := trodAll_nil r4
  obtain rfl : args = #[v0, v1, v2, v3, v4] := by cases args; simp_all
  obtain ⟨rfl, rfl⟩ := trodVars_none hV
  obtain ⟨a0, rfl, rfl, rfl, w0⟩ := open_int Try.underlying3 (hval 0 3 v0 rfl rfl) h0
  obtain ⟨a1, rfl, rfl, rfl, w1⟩ := open_int Try.underlying3 (hval 1 3 v1 rfl rfl) h1
  obtain ⟨a2, rfl, rfl, rfl, w2⟩ := open_int Try.underlying3 (hval 2 3 v2 rfl rfl) h2
  obtain ⟨a3, rfl, rfl, rfl, w3⟩ := open_int Try.underlying3 (hval 3 3 v3 rfl rfl) h3
  obtain ⟨a4, rfl, rfl, rfl, w4⟩ := open_int Try.underlying3 (hval 4 3 v4 rfl rfl) h4
  clear hA0 hval0
  simp only [List.append_nil] at hW'
  refine (walk a0 a1 a2 a3 a4 w0 w1 w2 w3 w4 W).mono fun e W' ⟨he, hg⟩ => ?_
  subst he
  exact ⟨_, rfl, post_of_same (pa := []) (pv := []) hW' (fun _ _ _ => (trodAll_cons_mk (shut_bool Try.underlying4 _) trodAll_mk0)) (fun sp _ => (trodAll_cons_mk (shut_int Try.underlying3 w0) (trodAll_cons_mk (shut_int Try.underlying3 w1) (trodAll_cons_mk (shut_int Try.underlying3 w2) (trodAll_cons_mk (shut_int Try.underlying3 w3) (trodAll_cons_mk (shut_int Try.underlying3 w4) trodAll_mk0)))))) (fun _ _ => rfl) rfl
    (hg.frame _) hg.2.1 (ok_one (by kernel_rfl) rfl (okWide_bool_mk Try.underlying4 _))⟩

theorem over : Rows.rulesSaysRow.holds Try.pinned (OpenSpec.ofChange Rows.rulesSaysSpec) :=
  OpenClaim.holds_of_wide 4 Try.f4 rfl rfl rfl rfl rfl rfl rfl ⟨rfl, rfl, rfl, rfl, rfl⟩ rfl rfl rfl rfl rfl (by kernel_rfl) Try.func4 (by kernel_rfl)
    (of_decide_eq_true (by kernel_rfl)) (by unfold Func.isWrapper; first | (rw [if_pos (by decide +kernel)]; kernel_rfl) | (rw [if_neg (by decide +kernel)]; exact ⟨rfl, rfl⟩))
    (fun os started H enc _ => lifted os started H enc)

end Go.Proofs.Ytnenegkgmkgfaaa.rulesSays
namespace Go.Proofs.Ytnenegkgmkgfaaa
theorem rulesSays_holds : Rows.RulesSaysSaid := rulesSays.over
end Go.Proofs.Ytnenegkgmkgfaaa
